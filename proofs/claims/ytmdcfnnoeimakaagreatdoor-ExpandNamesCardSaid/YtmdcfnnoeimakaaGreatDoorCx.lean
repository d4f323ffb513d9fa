/- Closed runs: a region's order where rows are laid early. -/
import Derived.Test.YtmdcfnnoeimakaaGreatDoorCw
namespace Go.Am
open Go.MapKept
set_option linter.unusedVariables false
noncomputable section
section
variable {P : Program}

/-- Rows that `la` lays are named when all else that may stand ahead has been gone through. -/
def OH (P : Program) (ops : List Oper) (ms : List Nat) (K : Slots → AW → Prop) (la : List Nat) : Nat → List Nat → Dn → Slots → AW → Prop
  | 0, pre, dn, a, h => (∀ l, l ∈ la → (∀ j, ahead ms l j = true → j ∈ pre) → ∃ o d x, ops[l]? = some o ∧ o.dst = some d ∧ frB P a o = some x) ∧
    (∀ x o, ops[x]? = some o → x ∉ pre → x ∈ la ∨ ∀ l, l ∈ la → ahead ms x l = true) ∧ OwnAll h ∧ ∃ b' h', revB P ops a la a h = some (b', h') ∧
      (∀ e, e ∈ dn → ∀ p, ops[e.1]? = some p → StepQ P e.2.1 p h' e.2.2) ∧ ∃ n', OG P ops ms K n' (la ++ pre) dn b' h'
  | n + 1, pre, dn, a, h => (∀ l, l ∈ la → (∀ j, ahead ms l j = true → j ∈ pre) → ∃ o d x, ops[l]? = some o ∧ o.dst = some d ∧ frB P a o = some x) ∧
    ((∃ i o, ops[i]? = some o ∧ i ∉ pre ∧ i ∉ la ∧ (∀ j, ahead ms i j = true → j ∈ pre) ∧
      ((skipB ops o a = true ∧ ∃ a₁, putAt a o.dst undef = some a₁ ∧ OH P ops ms K la n (i :: pre) dn a₁ h) ∨
       (wantedB ops o a = true ∧ ∃ v a₁, StepQ P a o h v ∧ putAt a o.dst v = some a₁ ∧ OH P ops ms K la n (i :: pre) ((i, a, v) :: dn) a₁ h))) ∨
    (∃ i o, ops[i]? = some o ∧ i ∉ pre ∧ i ∉ la ∧ (∀ j, ahead ms i j = true → j ∈ pre) ∧ (∀ x o', ops[x]? = some o' → x ∉ pre → x = i ∨ x ∈ la ∨ ahead ms x i = true) ∧ wantedB ops o a = true ∧
      StepW P a o h fun v h₁ => ∃ a₁, putAt a o.dst v = some a₁ ∧ (∀ e, e ∈ dn → ahead ms i e.1 = false → ∀ p, ops[e.1]? = some p → StepQ P e.2.1 p h₁ e.2.2) ∧ OH P ops ms K la n (i :: pre) dn a₁ h₁))

def Looks (ops : List Oper) (ms : List Nat) (a₀ : Slots) (val : Nat → Value) (j : Nat) (o : Oper) (aj : Slots) : Prop :=
  ∀ t, t ∈ looksB ops o → (∀ q oq, ops[q]? = some oq → oq.dst = some t → ahead ms j q = true → aj[t]? = some (val q)) ∧ ((∀ q oq, ops[q]? = some oq → oq.dst = some t → ahead ms j q = false) → aj[t]? = a₀[t]?)

structure Mo4 (P : Program) (ops : List Oper) (ms : List Nat) (K : Slots → AW → Prop) (la : List Nat) (a₀ : Slots) (S : Nat → Prop) (h : AW) (n : Nat) (pre : List Nat) (dn : Dn) (a : Slots) (val : Nat → Value) (inf : Nat → FI) : Prop where
  od : OH P ops ms K la n pre dn a h
  len : a.length = a₀.length
  slot : ∀ j o d, j ∈ pre → ops[j]? = some o → o.dst = some d → a[d]? = some (val j)
  slot0 : ∀ t, (∀ j o, j ∈ pre → ops[j]? = some o → o.dst ≠ some t) → a[t]? = a₀[t]?
  out : ∀ j, j ∉ pre → S j → j ∈ la
  prel : ∀ j, j ∈ pre → j ∉ la
  closed : ∀ p, p ∈ pre → ∀ j, ahead ms p j = true → j ∈ pre
  pend : ∀ j o, j ∈ pre → ¬ S j → ops[j]? = some o → ∃ aj, aj.length = a₀.length ∧ Looks ops ms a₀ val j o aj ∧
    ((skipB ops o aj = true ∧ val j = undef) ∨ (wantedB ops o aj = true ∧ (j, aj, val j) ∈ dn ∧ StepQ P aj o h (val j)))
  early : ∀ j o, S j → j ∈ la → ops[j]? = some o → (∀ q, ahead ms j q = true → q ∈ pre) ∧ ∃ aj, aj.length = a₀.length ∧ Looks ops ms a₀ val j o aj ∧ frB P aj o = some (inf j)

section
variable {ops : List Oper} {ms : List Nat} {K : Slots → AW → Prop} {la : List Nat} {a₀ : Slots} {S : Nat → Prop} {h : AW} {inf : Nat → FI}

/-- What an operation looks at whose slots' writers have been gone through. -/
theorem Mo4.looks (hO : Ord3 ops ms) {n : Nat} {pre : List Nat} {dn : Dn} {a : Slots} {val : Nat → Value} (M : Mo4 P ops ms K la a₀ S h n pre dn a val inf) {i : Nat} {o : Oper} (hi : ops[i]? = some o) (hni : i ∉ pre) (hbe : ∀ j, ahead ms i j = true → j ∈ pre) : Looks ops ms a₀ val i o a := by
  intro t ht
  refine ⟨fun q oq hq hd hah => M.slot q oq t (hbe q hah) hq hd, fun hno => M.slot0 t fun q oq hmq hq hd => ?_⟩
  have hne : q ≠ i := fun hh => by subst hh; exact hni hmq
  obtain ⟨s1, s2⟩ := hO.sorted i o q oq t hi hq hd ht hne
  rcases Nat.lt_or_gt_of_ne hne with hlt' | hgt
  · rw [hno q oq hq hd] at s1; exact absurd (s1 hlt') (by simp)
  · exact hni (M.closed q hmq i (s2 hgt))
theorem Looks.same {val : Nat → Value} {j : Nat} {o : Oper} {x y : Slots} (h : Looks ops ms a₀ val j o x) (k : Looks ops ms a₀ val j o y) : ∀ t, t ∈ looksB ops o → x[t]? = y[t]? := fun t ht => by
  by_cases hex : ∃ q oq, ops[q]? = some oq ∧ oq.dst = some t ∧ ahead ms j q = true
  · obtain ⟨q, oq, h1, h2, h3⟩ := hex
    rw [(h t ht).1 q oq h1 h2 h3, (k t ht).1 q oq h1 h2 h3]
  · have hno : ∀ q oq, ops[q]? = some oq → oq.dst = some t → ahead ms j q = false := fun q oq h1 h2 => by
      cases hb' : ahead ms j q with
      | false => rfl
      | true => exact absurd ⟨q, oq, h1, h2, hb'⟩ hex
    rw [(h t ht).2 hno, (k t ht).2 hno]

theorem Mo4.step (hO : Ord3 ops ms) {i n m : Nat} {o : Oper} {pre : List Nat} {dn dn' : Dn} {a a₁ : Slots} {val : Nat → Value} {v : Value} {h' : AW} {S' : Nat → Prop} (M : Mo4 P ops ms K la a₀ S h m pre dn a val inf)
    (hi : ops[i]? = some o) (hni : i ∉ pre) (hnl : i ∉ la) (hbe : ∀ j, ahead ms i j = true → j ∈ pre) (ep : putAt a o.dst v = some a₁) (od : OH P ops ms K la n (i :: pre) dn' a₁ h') (hdn : ∀ e, e ∈ dn → e ∈ dn') (hS : ∀ j, j ≠ i → (S' j ↔ S j))
    (hold : ∀ j aj u p, ¬ S j → (j, aj, u) ∈ dn → ops[j]? = some p → StepQ P aj p h u → StepQ P aj p h' u)
    (here : ¬ S' i → (skipB ops o a = true ∧ v = undef) ∨ (wantedB ops o a = true ∧ (i, a, v) ∈ dn' ∧ StepQ P a o h' v)) :
    Mo4 P ops ms K la a₀ S' h' n (i :: pre) dn' a₁ (fun j => if j = i then v else val j) inf := by
  obtain ⟨hal, had, hag⟩ := putAt_get ep
  have hpre : ∀ j, j ∈ pre → j ≠ i := fun j hm hh => by subst hh; exact hni hm
  have hlooks : ∀ j p aj, (∀ q, ahead ms j q = true → q ≠ i) → Looks ops ms a₀ val j p aj → Looks ops ms a₀ (fun j => if j = i then v else val j) j p aj := fun j p aj hq hl t ht =>
    ⟨fun q oq h1 h2 h3 => by simp only [if_neg (hq q h3)]; exact (hl t ht).1 q oq h1 h2 h3, (hl t ht).2⟩
  refine ⟨od, hal.trans M.len, ?_, ?_, ?_, ?_, ?_, ?_, ?_⟩
  · rintro j p d hm hj hd
    rw [hag]
    by_cases hji : j = i
    · subst hji; rw [hi] at hj; simp at hj; subst hj; simp [hd]
    · rw [if_neg hji]
      have hm' : j ∈ pre := by simpa [hji] using hm
      rw [if_neg (fun hh => hji (hO.once j i p o d hj hi hd hh))]
      exact M.slot j p d hm' hj hd
  · intro t ht
    rw [hag, if_neg (ht i o (by simp) hi)]
    exact M.slot0 t fun j p hm hj => ht j p (by simp [hm]) hj
  · intro j hm hs
    simp at hm
    exact M.out j hm.2 ((hS j hm.1).1 hs)
  · intro j hj
    rcases List.mem_cons.1 hj with rfl | hj
    · exact hnl
    · exact M.prel j hj
  · intro p hp j hj
    rcases List.mem_cons.1 hp with rfl | hp
    · exact List.mem_cons_of_mem _ (hbe j hj)
    · exact List.mem_cons_of_mem _ (M.closed p hp j hj)
  · intro j p hm hs hj
    by_cases hji : j = i
    · subst hji
      rw [hi] at hj; simp at hj; subst hj
      refine ⟨a, M.len, hlooks j o a (fun q hq hh => by subst hh; exact absurd (hO.back q o hi q hq) (Nat.lt_irrefl q)) (M.looks hO hi hni hbe), ?_⟩
      simp only [if_pos]; exact here hs
    · have hm' : j ∈ pre := by simpa [hji] using hm
      obtain ⟨aj, hl, hlook, hor⟩ := M.pend j p hm' (fun hh => hs ((hS j hji).2 hh)) hj
      refine ⟨aj, hl, hlooks j p aj (fun q hq => hpre q (M.closed j hm' q hq)) hlook, ?_⟩
      simp only [if_neg hji]
      rcases hor with hor | ⟨h1, h2, h3⟩
      · exact .inl hor
      · exact .inr ⟨h1, hdn _ h2, hold j aj _ p (fun hh => hs ((hS j hji).2 hh)) h2 hj h3⟩
  · intro j p hs hj hp
    have hji : j ≠ i := fun hh => hnl (hh ▸ hj)
    obtain ⟨h1, aj, h2, h3, h4⟩ := M.early j p ((hS j hji).1 hs) hj hp
    exact ⟨fun q hq => List.mem_cons_of_mem _ (h1 q hq), aj, h2, hlooks j p aj (fun q hq => hpre q (h1 q hq)) h3, h4⟩

/-- On to what turns the rows next, or to where all is named. -/
theorem Mo4.on (hO : Ord3 ops ms) : ∀ {n : Nat} {pre : List Nat} {dn : Dn} {a : Slots} {val : Nat → Value}, Mo4 P ops ms K la a₀ S h n pre dn a val inf →
    ∃ n' pre' dn' a' val', Mo4 P ops ms K la a₀ S h n' pre' dn' a' val' inf ∧ (∀ j, S j → j ∉ la → val' j = val j) ∧ (n' = 0 ∨ ∃ m, n' = m + 1 ∧
      ∃ i o, ops[i]? = some o ∧ i ∉ pre' ∧ i ∉ la ∧ (∀ j, ahead ms i j = true → j ∈ pre') ∧ (∀ x o', ops[x]? = some o' → x ∉ pre' → x = i ∨ x ∈ la ∨ ahead ms x i = true) ∧ wantedB ops o a' = true ∧
      StepW P a' o h fun v h₁ => ∃ a₁, putAt a' o.dst v = some a₁ ∧ (∀ e, e ∈ dn' → ahead ms i e.1 = false → ∀ p, ops[e.1]? = some p → StepQ P e.2.1 p h₁ e.2.2) ∧ OH P ops ms K la m (i :: pre') dn' a₁ h₁) := by
  intro n
  induction n with
  | zero => intro pre dn a val M; exact ⟨0, pre, dn, a, val, M, fun _ _ _ => rfl, .inl rfl⟩
  | succ n ih =>
    intro pre dn a val M
    have od := M.od
    simp only [OH] at od
    rcases od.2 with ⟨i, o, hi, hni, hnl, hbe, hor⟩ | hT
    · have hnS : ∀ j, S j → j ∉ la → j ≠ i := fun j hj hjl hh => by subst hh; exact hjl (M.out j hni hj)
      rcases hor with ⟨hw, a₁, ep, od⟩ | ⟨hw, v, a₁, sq, ep, od⟩
      · obtain ⟨n', pre', dn', a', val', M', hv, hp⟩ := ih (M.step hO hi hni hnl hbe ep od (fun _ he => he) (fun _ _ => Iff.rfl) (fun _ _ _ _ _ _ _ hh => hh) fun _ => .inl ⟨hw, rfl⟩)
        exact ⟨n', pre', dn', a', val', M', fun j hj hjl => by rw [hv j hj hjl, if_neg (hnS j hj hjl)], hp⟩
      · obtain ⟨n', pre', dn', a', val', M', hv, hp⟩ := ih (M.step hO hi hni hnl hbe ep od (fun _ he => List.mem_cons_of_mem _ he) (fun _ _ => Iff.rfl) (fun _ _ _ _ _ _ _ hh => hh) fun _ => .inr ⟨hw, by simp, sq⟩)
        exact ⟨n', pre', dn', a', val', M', fun j hj hjl => by rw [hv j hj hjl, if_neg (hnS j hj hjl)], hp⟩
    · exact ⟨n + 1, pre, dn, a, val, M, fun _ _ _ => rfl, .inr ⟨n, rfl, hT⟩⟩
end

/-- All that is laid early has been laid: it is named, and what is left goes on by the elder rule. -/
theorem toOG (hg : noGo P = true) {ro : Option Nat} {ds : List Deferred} {opsA : Array Oper} {ms : List Nat} {la : List Nat} {a₀ : Slots} {K : Slots → AW → Prop} {ρ₀ : Env} {h₀ : AW} {w₀ : World} {Q : Exit → Act → World → Prop}
    (hm : masksB opsA.toList [] = some ms) (hO : Ord3 opsA.toList ms) (hback : backB opsA.toList 0 = true) (hla2 : la.Nodup) (hla3 : ∀ l, l ∈ la → ∃ o d, opsA.toList[l]? = some o ∧ o.dst = some d)
    (hQ : ∀ a' h' ρ' act' w', K a' h' → LRel ρ' a' act'.tmps.toList → act'.defers = ds → HRel P ρ' h' w' → Turn ρ₀ h₀ w₀ ρ' h' w' → Q .normal act' w')
    {fuel : Nat} {listed : Array Bool} {act : Act} {w : World} {ρ : Env} {h : AW} {pre : List Nat} {dn : Dn} {a : Slots} {val : Nat → Value} {inf : Nat → FI} {blk : Nat → Nat} (hsize : listed.size = opsA.size)
    (hclosed : ∀ i o, lst listed i = true → opsA.toList[i]? = some o → ∀ e ∈ o.after.toList, Region.binds .any e = true → lst listed e.on = true)
    (M : Mo4 P opsA.toList ms K la a₀ (fun j => lst listed j = true) h 0 pre dn a val inf) (HR : HRel P ρ h w) (T : Turn ρ₀ h₀ w₀ ρ h w) (hsz : act.tmps.size = a₀.length) (hd : act.defers = ds)
    (hs1 : ∀ j o d, lst listed j = true → j ∉ la → opsA.toList[j]? = some o → o.dst = some d → ∃ u, act.tmps[d]? = some u ∧ VRel ρ (val j) u)
    (hs0 : ∀ t x, (∀ j (o : Oper), lst listed j = true → opsA.toList[j]? = some o → o.dst ≠ some t) → a₀[t]? = some x → ∃ u, act.tmps[t]? = some u ∧ VRel ρ x u)
    (hpd : ∀ j o d, lst listed j = true → j ∈ la → opsA.toList[j]? = some o → o.dst = some d → Pd P w₀ ρ h w act.tmps d (inf j) (blk j))
    (hdis : ∀ j j', lst listed j = true → lst listed j' = true → j ∈ la → j' ∈ la → j ≠ j' → blk j ≠ blk j')
    (hfuel : ((List.range opsA.size).filter fun i => !listed.getD i true).length ≤ fuel) (hall : ∀ l, l ∈ la → lst listed l = true) : wpAnyIn (wideAt ro) 0 P .any opsA Q fuel listed act w := by
  have od := M.od
  simp only [OH] at od
  obtain ⟨_, hrem, hown, b', h', hrev, hdn, n', hog⟩ := od
  obtain ⟨ρ', le, H', T', hlen, hot, hin⟩ := rev_all hO.once hrev HR hown T hla2 (fun j o d hj ho hdd => by
    obtain ⟨h1, aj, h2, h3, h4⟩ := M.early j o (hall j hj) hj ho
    refine ⟨?_, hpd j o d (hall j hj) hj ho hdd⟩
    rw [← h4]
    exact frB_congr (aev_congr (Looks.same (M.looks hO ho (fun hp => M.prel j hp hj) h1) h3))) (fun j j' hj hj' => hdis j j' (hall j hj) (hall j' hj') hj hj')
  let val' : Nat → Value := fun j => if j ∈ la then (((opsA.toList[j]?).bind (·.dst)).bind fun d => b'[d]?).getD undef else val j
  have v1 : ∀ j o d, j ∈ la → opsA.toList[j]? = some o → o.dst = some d → b'[d]? = some (val' j) := fun j o d hj ho hdd => by
    obtain ⟨v, u, hv, _, _⟩ := hin j o d hj ho hdd
    simp only [val', if_pos hj, ho, Option.bind_some, hdd, hv, Option.getD_some]
  have v0 : ∀ j, j ∉ la → val' j = val j := fun j hj => by simp only [val', if_neg hj]
  have M' : Mo P opsA.toList ms K a₀ (fun j => lst listed j = true) h' n' (la ++ pre) dn b' val' := by
    refine ⟨hog, hlen.trans M.len, ?_, ?_, ?_, ?_, ?_⟩
    · intro j o d hj ho hdd
      by_cases hjl : j ∈ la
      · exact v1 j o d hjl ho hdd
      · have hjp : j ∈ pre := by simpa [hjl] using hj
        rw [v0 j hjl, hot d fun j' o' hj' ho' hd' => hjl (by rw [hO.once j j' o o' d ho ho' hdd hd']; exact hj')]
        exact M.slot j o d hjp ho hdd
    · intro t ht
      rw [hot t fun j o hj ho => ht j o (by simp [hj]) ho]
      exact M.slot0 t fun j o hj ho => ht j o (by simp [hj]) ho
    · intro j hj hs
      simp at hj
      exact hj.1 (M.out j hj.2 hs)
    · intro p hp j hj
      rcases List.mem_append.1 hp with hp | hp
      · obtain ⟨o, d, ho, _⟩ := hla3 p hp
        exact List.mem_append_right _ ((M.early p o (hall p hp) hp ho).1 j hj)
      · exact List.mem_append_right _ (M.closed p hp j hj)
    · intro j o hj hs ho
      have hjl : j ∉ la := fun hh => hs (hall j hh)
      have hjp : j ∈ pre := by simpa [hjl] using hj
      obtain ⟨aj, hl, hlook, hor⟩ := M.pend j o hjp hs ho
      refine ⟨aj, hl, fun t ht => ⟨fun q oq h1 h2 h3 => ?_, (hlook t ht).2⟩, ?_⟩
      · rw [v0 q (M.prel q (M.closed j hjp q h3))]
        exact (hlook t ht).1 q oq h1 h2 h3
      · rw [v0 j hjl]
        rcases hor with hor | ⟨h1, h2, h3⟩
        · exact .inl hor
        · exact .inr ⟨h1, h2, hdn _ h2 o ho⟩
  refine draw_any3 hg hm hO hback hQ fuel listed act w ρ' h' n' (la ++ pre) dn b' val' hsize hclosed M' H' T' hsz hd ?_ ?_ hfuel
  · intro j o d hj ho hdd
    by_cases hjl : j ∈ la
    · obtain ⟨v, u, hv, hu, hr⟩ := hin j o d hjl ho hdd
      have := v1 j o d hjl ho hdd
      rw [hv] at this
      simp only [Option.some.injEq] at this
      exact ⟨u, hu, this ▸ hr⟩
    · obtain ⟨u, hu, hr⟩ := hs1 j o d hj hjl ho hdd
      exact ⟨u, hu, by rw [v0 j hjl]; exact hr.mono le⟩
  · intro t x hno hx
    obtain ⟨u, hu, hr⟩ := hs0 t x hno hx
    exact ⟨u, hu, hr.mono le⟩

theorem draw_any4 (hg : noGo P = true) {ro : Option Nat} {ds : List Deferred} {opsA : Array Oper} {ms : List Nat} {la : List Nat} {a₀ : Slots} {K : Slots → AW → Prop} {ρ₀ : Env} {h₀ : AW} {w₀ : World} {Q : Exit → Act → World → Prop}
    (hm : masksB opsA.toList [] = some ms) (hO : Ord3 opsA.toList ms) (hback : backB opsA.toList 0 = true) (hla1 : ∀ l l', l ∈ la → l' ∈ la → ahead ms l l' = false) (hla2 : la.Nodup) (hla3 : ∀ l, l ∈ la → ∃ o d, opsA.toList[l]? = some o ∧ o.dst = some d) (hla4 : ∀ l o d, l ∈ la → opsA.toList[l]? = some o → o.dst = some d → d < a₀.length)
    (hQ : ∀ a' h' ρ' act' w', K a' h' → LRel ρ' a' act'.tmps.toList → act'.defers = ds → HRel P ρ' h' w' → Turn ρ₀ h₀ w₀ ρ' h' w' → Q .normal act' w') :
    ∀ (fuel : Nat) (listed : Array Bool) (act : Act) (w : World) (ρ : Env) (h : AW) (n : Nat) (pre : List Nat) (dn : Dn) (a : Slots) (val : Nat → Value) (inf : Nat → FI) (blk : Nat → Nat), listed.size = opsA.size →
      (∀ i o, lst listed i = true → opsA.toList[i]? = some o → ∀ e ∈ o.after.toList, Region.binds .any e = true → lst listed e.on = true) →
      Mo4 P opsA.toList ms K la a₀ (fun j => lst listed j = true) h n pre dn a val inf → HRel P ρ h w → Turn ρ₀ h₀ w₀ ρ h w → act.tmps.size = a₀.length → act.defers = ds →
      (∀ j o d, lst listed j = true → j ∉ la → opsA.toList[j]? = some o → o.dst = some d → ∃ u, act.tmps[d]? = some u ∧ VRel ρ (val j) u) →
      (∀ t x, (∀ j (o : Oper), lst listed j = true → opsA.toList[j]? = some o → o.dst ≠ some t) → a₀[t]? = some x → ∃ u, act.tmps[t]? = some u ∧ VRel ρ x u) →
      (∀ j o d, lst listed j = true → j ∈ la → opsA.toList[j]? = some o → o.dst = some d → Pd P w₀ ρ h w act.tmps d (inf j) (blk j)) →
      (∀ j j', lst listed j = true → lst listed j' = true → j ∈ la → j' ∈ la → j ≠ j' → blk j ≠ blk j') →
      ((List.range opsA.size).filter fun i => !listed.getD i true).length ≤ fuel → wpAnyIn (wideAt ro) 0 P .any opsA Q fuel listed act w := by
  have hgetD : ∀ (listed : Array Bool) (i : Nat), i < listed.size → listed.getD i true = lst listed i := fun listed i hi => by
    unfold lst
    rw [Array.getD_eq_getD_getElem?, Array.getD_eq_getD_getElem?, Array.getElem?_eq_getElem hi]; rfl
  have hlaS : ∀ l, l ∈ la → l < opsA.size := fun l hl => by
    obtain ⟨o, d, ho, _⟩ := hla3 l hl
    simpa using (List.getElem?_eq_some_iff.1 ho).1
  intro fuel
  induction fuel with
  | zero =>
    intro listed act w ρ h n pre dn a val inf blk hsize hclosed M HR T hsz hd hs1 hs0 hpd hdis hfuel
    have hnil : ((List.range opsA.size).filter fun i => !listed.getD i true) = [] := List.eq_nil_of_length_eq_zero (by omega)
    have hall : ∀ i, i < opsA.size → lst listed i = true := fun i hi => by
      have := List.filter_eq_nil_iff.1 hnil i (by simpa using hi)
      rw [hgetD listed i (by omega)] at this
      simpa using this
    obtain ⟨n', pre', dn', a', val', M', hveq, hhead⟩ := M.on hO
    have hs1' : ∀ j o d, lst listed j = true → j ∉ la → opsA.toList[j]? = some o → o.dst = some d → ∃ u, act.tmps[d]? = some u ∧ VRel ρ (val' j) u := fun j o d hj hjl ho hd' => by
      rw [hveq j hj hjl]; exact hs1 j o d hj hjl ho hd'
    rcases hhead with rfl | ⟨m, rfl, i, o, hi, hni, hnl, _⟩
    · exact toOG hg hm hO hback hla2 hla3 hQ hsize hclosed M' HR T hsz hd hs1' hs0 hpd hdis hfuel fun l hl => hall l (hlaS l hl)
    · exact absurd (M'.out i hni (hall i (by simpa using (List.getElem?_eq_some_iff.1 hi).1))) hnl
  | succ fuel ih =>
    intro listed act w ρ h n pre dn a val inf blk hsize hclosed M HR T hsz hd hs1 hs0 hpd hdis hfuel
    obtain ⟨n', pre', dn', a', val', M', hveq, hhead⟩ := M.on hO
    have hs1' : ∀ j o d, lst listed j = true → j ∉ la → opsA.toList[j]? = some o → o.dst = some d → ∃ u, act.tmps[d]? = some u ∧ VRel ρ (val' j) u := fun j o d hj hjl ho hd' => by
      rw [hveq j hj hjl]; exact hs1 j o d hj hjl ho hd'
    clear M hs1 hveq
    by_cases hkey : n' = 0 ∧ ∀ l, l ∈ la → lst listed l = true
    · obtain ⟨rfl, hall⟩ := hkey
      exact toOG hg hm hO hback hla2 hla3 hQ hsize hclosed M' HR T hsz hd hs1' hs0 hpd hdis hfuel hall
    -- what the head has not, whoever stands behind
    have hheadC : ∀ i o, opsA.toList[i]? = some o → i ∉ pre' → i ∉ la → (∀ j, ahead ms i j = true → lst listed j = true) → ∃ m, n' = m + 1 ∧
        (∀ j, ahead ms i j = true → j ∈ pre') ∧ wantedB opsA.toList o a' = true ∧
        StepW P a' o h fun v h₁ => ∃ a₁, putAt a' o.dst v = some a₁ ∧ (∀ e, e ∈ dn' → ahead ms i e.1 = false → ∀ p, opsA.toList[e.1]? = some p → StepQ P e.2.1 p h₁ e.2.2) ∧ OH P opsA.toList ms K la m (i :: pre') dn' a₁ h₁ := by
      intro i o hi hni hnl hbef
      rcases hhead with rfl | ⟨m, hm', i', o', hi', hni', hnl', hbe, hrem, hw, sw⟩
      · have od := M'.od
        simp only [OH] at od
        exact absurd ⟨rfl, fun l hl => hbef l ((od.2.1 i o hi hni).resolve_left hnl l hl)⟩ hkey
      · rcases hrem i o hi hni with rfl | hl | hah
        · rw [hi] at hi'; simp only [Option.some.injEq] at hi'; subst hi'
          exact ⟨m, hm', hbe, hw, sw⟩
        · exact absurd hl hnl
        · exact absurd (M'.out i' hni' (hbef i' hah)) hnl'
    refine ⟨fun hready => ?_, fun i hi => ?_⟩
    · have hall : ∀ i, i < opsA.size → lst listed i = true := by
        intro i
        induction i using Nat.strongRecOn with
        | _ i ihi =>
          intro hi
          cases hb : lst listed i with
          | true => rfl
          | false =>
            have hin : i ∈ Region.ready .any opsA listed := by
              unfold Region.ready
              rw [List.mem_filter]
              refine ⟨by simpa using hi, ?_⟩
              rw [hgetD listed i (by omega), hb]
              have ho : opsA[i]? = some opsA[i] := Array.getElem?_eq_getElem hi
              simp only [ho, Option.map_some, Option.getD_some, Bool.not_false, Bool.true_and]
              rw [Array.all_eq_true']
              intro e he
              cases hbe : Region.binds .any e with
              | false => simp
              | true =>
              have hlt := backB_spec hback i opsA[i] (by rw [Array.getElem?_toList]; exact ho) e (by simpa using he) hbe
              have := ihi e.on (by omega) (by omega)
              unfold lst at this
              rw [this]; simp
            rw [hready] at hin
            simp at hin
      rcases hhead with rfl | ⟨m, rfl, i, o, hi, hni, hnl, _⟩
      · exact absurd ⟨rfl, fun l hl => hall l (hlaS l hl)⟩ hkey
      · exact absurd (M'.out i hni (hall i (by simpa using (List.getElem?_eq_some_iff.1 hi).1))) hnl
    · -- the operation i stands next
      unfold Region.ready at hi
      rw [List.mem_filter] at hi
      obtain ⟨hin, hi⟩ := hi
      have hin : i < opsA.size := by simpa using hin
      have ho : opsA[i]? = some opsA[i] := Array.getElem?_eq_getElem hin
      generalize opsA[i] = o at ho
      rw [hgetD listed i (by omega), ho] at hi
      simp only [Option.map_some, Option.getD_some, Bool.and_eq_true, Bool.not_eq_true'] at hi
      obtain ⟨hnot, hpre⟩ := hi
      rw [Array.all_eq_true'] at hpre
      have hoL : opsA.toList[i]? = some o := by rw [Array.getElem?_toList]; exact ho
      have hpreds : ∀ e ∈ o.after.toList, Region.binds .any e = true → lst listed e.on = true := fun e he hb => by
        have := hpre e (by simpa using he)
        rw [hb] at this
        simpa [lst] using this
      have hclose := closed_ahead hm hback (S := fun j => lst listed j = true) hclosed
      have hbefore : ∀ j, ahead ms i j = true → lst listed j = true := hclose i o hoL hpreds
      have hafter : ∀ j q, opsA.toList[j]? = some q → lst listed j = true → ahead ms j i = false := fun j q hq hj => by
        cases hb : ahead ms j i with
        | false => rfl
        | true =>
          have := hclose j q hq (hclosed j q hj hq) i hb
          rw [hnot] at this; cases this
      -- what stands in the slots
      let A : Slots := (List.range a₀.length).map fun t => open Classical in if hx : ∃ j o, lst listed j = true ∧ opsA.toList[j]? = some o ∧ o.dst = some t then (if Classical.choose hx ∈ la then .chan none else val' (Classical.choose hx)) else (a₀[t]?).getD undef
      have hAl : A.length = a₀.length := by simp [A]
      have hA : ∀ t, t < a₀.length → A[t]? = some (open Classical in if hx : ∃ j o, lst listed j = true ∧ opsA.toList[j]? = some o ∧ o.dst = some t then (if Classical.choose hx ∈ la then .chan none else val' (Classical.choose hx)) else (a₀[t]?).getD undef) := fun t ht => by
        simp only [A, List.getElem?_map]
        rw [List.getElem?_range ht]; rfl
      have hA1 : ∀ j o t, lst listed j = true → opsA.toList[j]? = some o → o.dst = some t → t < a₀.length → A[t]? = some (if j ∈ la then .chan none else val' j) := fun j o t hj hjo hjd ht => by
        rw [hA t ht]
        have hx : ∃ j o, lst listed j = true ∧ opsA.toList[j]? = some o ∧ o.dst = some t := ⟨j, o, hj, hjo, hjd⟩
        rw [dif_pos hx]
        obtain ⟨p, h1, h2, h3⟩ := Classical.choose_spec hx
        rw [hO.once _ j p o t h2 hjo h3 hjd]
      have hA0 : ∀ t, (∀ j (o : Oper), lst listed j = true → opsA.toList[j]? = some o → o.dst ≠ some t) → A[t]? = a₀[t]? := fun t hno => by
        by_cases ht : t < a₀.length
        · rw [hA t ht, dif_neg (fun ⟨j, o, h1, h2, h3⟩ => hno j o h1 h2 h3), List.getElem?_eq_getElem ht]; rfl
        · rw [List.getElem?_eq_none (by rw [hAl]; exact Nat.le_of_not_lt ht), List.getElem?_eq_none (Nat.le_of_not_lt ht)]
      have hrelA : LRel ρ A act.tmps.toList := LRel.of_get (by simp; omega) fun t x hx => by
        rw [Array.getElem?_toList]
        have ht : t < a₀.length := by have := (List.getElem?_eq_some_iff.1 hx).1; omega
        by_cases hex : ∃ j o, lst listed j = true ∧ opsA.toList[j]? = some o ∧ o.dst = some t
        · obtain ⟨j, p, h1, h2, h3⟩ := hex
          rw [hA1 j p t h1 h2 h3 ht] at hx
          simp at hx
          by_cases hjl : j ∈ la
          · rw [if_pos hjl] at hx; subst hx
            exact ⟨_, Array.getElem?_eq_getElem (by omega), .any _⟩
          · rw [if_neg hjl] at hx; subst hx
            exact hs1' j p t h1 hjl h2 h3
        · have hno : ∀ j (o : Oper), lst listed j = true → opsA.toList[j]? = some o → o.dst ≠ some t := fun j o h1 h2 h3 => hex ⟨j, o, h1, h2, h3⟩
          rw [hA0 t hno] at hx
          exact hs0 t x hno hx
      -- no other one writes what it looks at
      have hlone : ∀ t, t ∈ looksB opsA.toList o → (∀ q oq, opsA.toList[q]? = some oq → oq.dst = some t → ahead ms i q = false) → ∀ j (p : Oper), lst listed j = true → opsA.toList[j]? = some p → p.dst ≠ some t := fun t ht hno j p hj hjp hjd => by
        have hne : j ≠ i := fun hh => by subst hh; rw [hnot] at hj; cases hj
        obtain ⟨s1, s2⟩ := hO.sorted i o j p t hoL hjp hjd ht hne
        rcases Nat.lt_or_gt_of_ne hne with hlt | hgt
        · rw [hno j p hjp hjd] at s1; exact absurd (s1 hlt) (by simp)
        · rw [hafter j p hjp hj] at s2; exact absurd (s2 hgt) (by simp)
      -- what it looks at, if nothing that is laid early stands ahead of it
      have hlookA : (∀ j, ahead ms i j = true → j ∉ la) → Looks opsA.toList ms a₀ val' i o A := fun hno t ht => by
        refine ⟨fun q oq h1 h2 h3 => ?_, fun hno' => hA0 t (hlone t ht hno')⟩
        by_cases hlt : t < a₀.length
        · rw [hA1 q oq t (hbefore q h3) h1 h2 hlt, if_neg (hno q h3)]
        · exfalso
          have hq : q ∈ pre' := by
            by_cases hq : q ∈ pre'
            · exact hq
            · exact absurd (M'.out q hq (hbefore q h3)) (hno q h3)
          have e1 := M'.slot q oq t hq h1 h2
          have := (List.getElem?_eq_some_iff.1 e1).1
          have := M'.len
          omega
      -- what holds behind it
      have next : ∀ (u : Value) (w' : World) (ρ' : Env) (h' : AW) (n' : Nat) (pre'' : List Nat) (dn' : Dn) (a' : Slots) (val : Nat → Value) (inf' : Nat → FI) (blk' : Nat → Nat), HRel P ρ' h' w' → Turn ρ h w ρ' h' w' → (i ∉ la → VRel ρ' (val i) u) → (∀ j, lst listed j = true → j ∉ la → val j = val' j) →
          (∀ d, o.dst = some d → d < act.tmps.size) →
          (∀ j, lst listed j = true → j ∈ la → inf' j = inf j ∧ blk' j = blk j) → (i ∈ la → ∀ d, o.dst = some d → Pd P w₀ ρ' h' w' (act.put o.dst u).tmps d (inf' i) (blk' i)) → (i ∈ la → ∀ j, lst listed j = true → j ∈ la → blk j ≠ blk' i) →
          Mo4 P opsA.toList ms K la a₀ (fun j => lst (listed.setIfInBounds i true) j = true) h' n' pre'' dn' a' val inf' → wpAnyIn (wideAt ro) 0 P .any opsA Q fuel (listed.setIfInBounds i true) (act.put o.dst u) w' := by
        intro u w' ρ' h' n' pre'' dn' a' val inf' blk' HR' T' hv hvj hdlt hib hpi hbi M
        have le := T'.le
        have hput : ∀ t, (act.put o.dst u).tmps[t]? = if o.dst = some t then (if t < act.tmps.size then some u else none) else act.tmps[t]? := fun t => by
          cases hd' : o.dst with
          | none => simp [Act.put]
          | some d =>
            simp only [Act.put, Array.getElem?_setIfInBounds]
            by_cases hdt : d = t
            · subst hdt; simp
            · rw [if_neg hdt, if_neg (fun hh => hdt (by simpa using hh))]
        refine ih _ _ w' ρ' h' n' pre'' dn' a' val inf' blk' (by simpa using hsize) ?_ M HR' (T.trans T') ?_ (by rw [put_defers]; exact hd) ?_ ?_ ?_ ?_ ?_
        · intro j q hj hq e he hb
          rw [lst_set (by omega)] at hj ⊢
          by_cases hji : j = i
          · subst hji
            rw [hoL] at hq; simp at hq; subst hq
            rw [hpreds e he hb]; simp
          · rw [if_neg hji] at hj
            rw [hclosed j q hj hq e he hb]; simp
        · rw [← hsz]
          cases o.dst <;> simp [Act.put]
        · intro j p d hj hjl hp hpd'
          rw [lst_set (by omega)] at hj
          by_cases hji : j = i
          · subst hji
            rw [hoL] at hp; simp at hp; subst hp
            exact ⟨u, by rw [hput, if_pos hpd', if_pos (hdlt d hpd')], hv hjl⟩
          · rw [if_neg hji] at hj
            obtain ⟨x, hx, hr⟩ := hs1' j p d hj hjl hp hpd'
            refine ⟨x, ?_, by rw [hvj j hj hjl]; exact hr.mono le⟩
            rw [hput, if_neg (fun hh => hji (hO.once j i p o d hp hoL hpd' hh))]
            exact hx
        · intro t x hno hx
          have hdt : o.dst ≠ some t := hno i o (by rw [lst_set (by omega)]; simp) hoL
          obtain ⟨y, hy, hr⟩ := hs0 t x (fun j p hj hp => hno j p (by rw [lst_set (by omega), hj]; simp) hp) hx
          exact ⟨y, by rw [hput, if_neg hdt]; exact hy, hr.mono le⟩
        · intro j p d hj hjl hp hpd'
          rw [lst_set (by omega)] at hj
          by_cases hji : j = i
          · subst hji
            rw [hoL] at hp; simp at hp; subst hp
            exact hpi hjl d hpd'
          · rw [if_neg hji] at hj
            obtain ⟨e1, e2⟩ := hib j hj hjl
            rw [e1, e2]
            refine (hpd j p d hj hjl hp hpd').turn T' ?_
            rw [hput, if_neg (fun hh => hji (hO.once j i p o d hp hoL hpd' hh))]
        · intro j j' hj hj' hjl hjl' hne
          rw [lst_set (by omega)] at hj hj'
          by_cases hji : j = i
          · subst hji
            rw [if_neg (fun hh => hne hh.symm)] at hj'
            rw [(hib j' hj' hjl').2]
            exact fun hh => hbi hjl j' hj' hjl' hh.symm
          · rw [if_neg hji] at hj
            rw [(hib j hj hjl).2]
            by_cases hji' : j' = i
            · subst hji'
              exact hbi hjl' j hj hjl
            · rw [if_neg hji'] at hj'
              rw [(hib j' hj' hjl').2]
              exact hdis j j' hj hj' hjl hjl' hne
        · have := cnt_lt (l := List.range opsA.size) (p := fun j => !listed.getD j true) (q := fun j => !(listed.setIfInBounds i true).getD j true) (fun x hx => by
            rw [Array.getD_eq_getD_getElem?, Array.getElem?_setIfInBounds] at hx
            rw [Array.getD_eq_getD_getElem?]
            by_cases hxi : i = x
            · subst hxi; rw [if_pos rfl, if_pos (by omega)] at hx; simp at hx
            · rwa [if_neg hxi] at hx) ⟨i, by simpa using hin, by rw [hgetD listed i (by omega), hnot]; rfl, by
              rw [Array.getD_eq_getD_getElem?, Array.getElem?_setIfInBounds, if_pos rfl, if_pos (by omega)]; rfl⟩
          omega
      have hmono : ∀ j, lst listed j = true → lst (listed.setIfInBounds i true) j = true := fun j hj => by rw [lst_set (by omega), hj]; simp
      have hself : lst (listed.setIfInBounds i true) i = true := by rw [lst_set (by omega)]; simp
      unfold wpOpIn
      rw [ho]
      simp only
      by_cases hil : i ∈ la
      · -- a row is laid early
        have hbe : ∀ j, ahead ms i j = true → j ∈ pre' := fun j hj => by
          by_cases hjp : j ∈ pre'
          · exact hjp
          · have := hla1 i j hil (M'.out j hjp (hbefore j hj))
            rw [hj] at this; cases this
        have hnl : ∀ j, ahead ms i j = true → j ∉ la := fun j hj => M'.prel j (hbe j hj)
        have hcond : ∃ o d x, opsA.toList[i]? = some o ∧ o.dst = some d ∧ frB P a' o = some x := by
          have od := M'.od
          cases n' with
          | zero => simp only [OH] at od; exact od.1 i hil hbe
          | succ n' => simp only [OH] at od; exact od.1 i hil hbe
        obtain ⟨o', d, x, ho', hdd, hfr⟩ := hcond
        rw [hoL] at ho'; simp only [Option.some.injEq] at ho'; subst ho'
        have hnp : i ∉ pre' := fun hp => M'.prel i hp hil
        have hlk := M'.looks hO hoL hnp hbe
        have hfA : frB P A o = some x := by rw [← hfr]; exact frB_congr (aev_congr (Looks.same (hlookA hnl) hlk))
        obtain ⟨e, cs, k⟩ := x
        have hguard := (frB_op hfr).1
        have hw : wantedB opsA.toList o A = true := by unfold wantedB; rw [hguard]
        obtain ⟨u, w', l, hrun, r1, r2, r3, r4, r5, r6, r7⟩ := frB_run (w := w) hrelA hfA
        have hop := (frB_op hfA).2.2 h
        obtain ⟨hh', _, hop⟩ := hop
        rw [← wantedB_eq hrelA (sure_of_wanted hw), hw, if_pos rfl]
        refine ⟨fun _ _ => trivial, ?_⟩
        rw [Oper.semAt_eq _ _ _ (opB_noDefer hop), hrun]
        have hkeep : ∀ r row lr, h.get r = some row → ρ r = some lr → lr.block < w.heap.size := fun r row lr hr hl => by
          obtain ⟨l', hl', hrow⟩ := HR.loc r row hr
          rw [hl] at hl'; simp only [Option.some.injEq] at hl'; subst hl'
          exact hrow.lt
        have HR' : HRel P ρ h w' := ⟨fun r row hr => by
          obtain ⟨l', hl', hrow⟩ := HR.loc r row hr
          exact ⟨l', hl', hrow.keep (Env.le_refl _) (r5 _ hrow.lt)⟩, HR.inj, HR.fresh, HR.step⟩
        have T' : Turn ρ h w ρ h w' := ⟨Env.le_refl _, r1, r2, r3, r4, fun r row l hr hro hl _ => ⟨r, row, l, hr, hro, hl, rfl⟩, fun k hk _ => r5 k hk, fun _ _ e => .inl e, ⟨0, by simp⟩, rfl⟩
        have hdsz : d < act.tmps.size := by rw [hsz]; exact hla4 i o d hil hoL hdd
        refine next u w' ρ h n' pre' dn' a' val' (fun j => if j = i then (e, cs, k) else inf j) (fun j => if j = i then l.block else blk j) HR' T' (fun hh => absurd hil hh) (fun _ _ _ => rfl) (fun d' hd' => by rw [hdd] at hd'; simp only [Option.some.injEq] at hd'; subst hd'; exact hdsz) (fun j hj hjl => ?_) (fun _ d' hd' => ?_) (fun _ j hj hjl => ?_) ?_
        · have hne : j ≠ i := fun hh => by subst hh; rw [hnot] at hj; cases hj
          exact ⟨if_neg hne, if_neg hne⟩
        · rw [hdd] at hd'; simp only [Option.some.injEq] at hd'; subst hd'
          simp only [if_pos]
          refine ⟨u, l, ?_, rfl, Nat.le_trans T.size r6, ?_, fun r row lr hr _ hl hh => ?_, r7⟩
          · rw [hdd]
            simp only [Act.put, Array.getElem?_setIfInBounds, if_pos, hdsz]
          · exact (r7 (fun _ => some l) 0 rfl).2.lt
          · have := hkeep r row lr hr hl
            omega
        · obtain ⟨oj, dj, hoj, hdj⟩ := hla3 j hjl
          obtain ⟨_, _, _, _, _, p4, _⟩ := hpd j oj dj hj hjl hoj hdj
          simp only [if_pos]
          omega
        · refine ⟨M'.od, M'.len, M'.slot, M'.slot0, fun j hjp hj => ?_, M'.prel, M'.closed, fun j p hjp hs hp => M'.pend j p hjp (fun hh => hs (hmono j hh)) hp, fun j p hj hjl hp => ?_⟩
          · rw [lst_set (by omega)] at hj
            by_cases hji : j = i
            · subst hji; exact hil
            · rw [if_neg hji] at hj; exact M'.out j hjp hj
          · rw [lst_set (by omega)] at hj
            by_cases hji : j = i
            · subst hji
              rw [hoL] at hp; simp only [Option.some.injEq] at hp; subst hp
              exact ⟨hbe, a', M'.len, hlk, by simp only [if_pos]; exact hfr⟩
            · rw [if_neg hji] at hj
              obtain ⟨q1, aj, q2, q3, q4⟩ := M'.early j p hj hjl hp
              exact ⟨q1, aj, q2, q3, by simp only [if_neg hji]; exact q4⟩
      · have hinf : ∀ j, lst listed j = true → j ∈ la → inf j = inf j ∧ blk j = blk j := fun _ _ _ => ⟨rfl, rfl⟩
        by_cases hb : i ∈ pre'
        · -- it has been put off till now
          obtain ⟨aj, hl, hlook, hor⟩ := M'.pend i o hb (by rw [hnot]; simp) hoL
          have hsame := Looks.same (hlookA fun j hj => M'.prel j (M'.closed i hb j hj)) hlook
          have hdlt : ∀ d, o.dst = some d → d < act.tmps.size := fun d hdd => by
            have h1 := (List.getElem?_eq_some_iff.1 (M'.slot i o d hb hoL hdd)).1
            rw [M'.len, ← hsz] at h1
            exact h1
          have M2 : Mo4 P opsA.toList ms K la a₀ (fun j => lst (listed.setIfInBounds i true) j = true) h n' pre' dn' a' val' inf :=
            ⟨M'.od, M'.len, M'.slot, M'.slot0, fun j hjp hj => by
              rw [lst_set (by omega)] at hj
              by_cases hji : j = i
              · subst hji; exact absurd hb hjp
              · rw [if_neg hji] at hj; exact M'.out j hjp hj, M'.prel, M'.closed, fun j p hjp hs hp => M'.pend j p hjp (fun hh => hs (hmono j hh)) hp, fun j p hj hjl hp => by
              rw [lst_set (by omega)] at hj
              rw [if_neg (show ¬ j = i from fun hh => hil (by rw [← hh]; exact hjl))] at hj
              exact M'.early j p hj hjl hp⟩
          have hopA : opB P A o h = opB P aj o h := opB_congr (aev_congr hsame)
          have nx : ∀ u w' ρ', VRel ρ' (val' i) u → HRel P ρ' h w' → Turn ρ h w ρ' h w' → wpAnyIn (wideAt ro) 0 P .any opsA Q fuel (listed.setIfInBounds i true) (act.put o.dst u) w' := fun u w' ρ' hv HR' T' =>
            next u w' ρ' h n' pre' dn' a' val' inf blk HR' T' (fun _ => hv) (fun _ _ _ => rfl) hdlt hinf (fun hh => absurd hh hil) (fun hh => absurd hh hil) M2
          rcases hor with ⟨hw, hv⟩ | ⟨hw, _, hq⟩
          · obtain ⟨hw, hsure⟩ := skip_iff.1 hw
            rw [← wantedB_eq hrelA (by rw [sureB_congr hsame]; exact hsure), wantedB_congr hsame, hw, if_neg (by simp)]
            exact ⟨fun _ _ => trivial, nx undef w ρ (by rw [hv]; exact undef_rel) HR (Turn.refl _ _ _)⟩
          · rw [← wantedB_eq hrelA (by rw [sureB_congr hsame]; exact sure_of_wanted hw), wantedB_congr hsame, hw, if_pos rfl]
            rcases hq with hop | ⟨f, args, hop, hcq⟩ | ⟨hvo, r₀, off₀, hvv⟩
            · obtain ⟨n, u, w', ρ', hrun, hn, hv, HR', T'⟩ := opB_sound hrelA HR (by rw [hopA]; exact hop)
              have := nx u w' ρ' hv HR' T'
              refine ⟨fun _ _ => trivial, ?_⟩
              rw [Oper.semAt_eq _ _ _ (opB_noDefer hop), hrun]
              rcases hn with rfl | ⟨rfl, rfl⟩ <;> exact this
            · obtain ⟨us, hus, hrun⟩ := opB_sound hrelA HR (e := by rw [hopA]; exact hop)
              obtain ⟨⟨fn, c, hf, hbd⟩, hcalls⟩ := hcq
              refine ⟨fun _ _ => trivial, ?_⟩
              rw [Oper.semAt_eq _ _ _ (opB_noDefer hop), hrun, run_callFunc hg hf hbd]
              refine ⟨fun hh => (by cases hh), callsIn_at.2 ((hcalls ρ us w hus HR).mono ?_)⟩
              rintro en w₁ ⟨v, h₁, u, ρ₁, rfl, ⟨rfl, rfl⟩, hv, H₁, T₁⟩
              exact nx u w₁ ρ₁ hv H₁ T₁
            · obtain ⟨t₀, el, n₀, zs, hoo, hu, hn, _, _⟩ := voidB_op hvo
              obtain ⟨u, w', ρ', hrun, hv, HR', T'⟩ := void_done (r := r₀) (off := off₀) (zs := zs) HR hu hn
              rw [← hvv] at hv
              have := nx u w' ρ' hv HR' T'
              refine ⟨fun _ _ => trivial, ?_⟩
              rw [Oper.semAt_eq _ _ _ (fun c hc => by rw [hoo] at hc; cases hc)]
              simp only [execOp, hoo, List.map_toArray, List.map_nil, Sem.run_bind, hrun, Result.andThen_ok, Sem.run_pure]
              exact this
        · -- it turns the rows
          obtain ⟨m, _, hbe, hw, sw⟩ := hheadC i o hoL hb hil hbefore
          have hsame := Looks.same (hlookA fun j hj => M'.prel j (hbe j hj)) (M'.looks hO hoL hb hbe)
          have hopA : opB P A o h = opB P a' o h := opB_congr (aev_congr hsame)
          rw [← wantedB_eq hrelA (by rw [sureB_congr hsame]; exact sure_of_wanted hw), wantedB_congr hsame, hw, if_pos rfl]
          have go : ∀ v h₁ u w' ρ', (∃ a₁, putAt a' o.dst v = some a₁ ∧ (∀ e, e ∈ dn' → ahead ms i e.1 = false → ∀ p, opsA.toList[e.1]? = some p → StepQ P e.2.1 p h₁ e.2.2) ∧ OH P opsA.toList ms K la m (i :: pre') dn' a₁ h₁) →
              VRel ρ' v u → HRel P ρ' h₁ w' → Turn ρ h w ρ' h₁ w' → wpAnyIn (wideAt ro) 0 P .any opsA Q fuel (listed.setIfInBounds i true) (act.put o.dst u) w' := by
            rintro v h₁ u w' ρ' ⟨a₁, ep, hobl, hod⟩ hv HR' T'
            have M2 := M'.step (S' := fun j => lst (listed.setIfInBounds i true) j = true) hO hoL hb hil hbe ep hod (fun _ he => he) (fun j hj => by rw [lst_set (by omega), if_neg hj]) (fun j aj u p hs hm hp _ => hobl _ hm (by
              cases hb' : ahead ms i j with
              | false => rfl
              | true => exact absurd (hbefore j hb') hs) p hp) (fun hs => absurd hself hs)
            refine next u w' ρ' h₁ _ _ _ _ _ inf blk HR' T' (fun _ => by simpa using hv) (fun j hj hjl => ?_) (fun d hdd => ?_) hinf (fun hh => absurd hh hil) (fun hh => absurd hh hil) M2
            · have hne : j ≠ i := fun hh => by subst hh; rw [hnot] at hj; cases hj
              simp [hne]
            · have h1 := (List.getElem?_eq_some_iff.1 (M2.slot i o d (by simp) hoL hdd)).1
              rw [M2.len, ← hsz] at h1
              exact h1
          rcases sw with ⟨v, h₁, hop, hR⟩ | ⟨f, args, hop, hcq⟩
          · obtain ⟨n, u, w', ρ', hrun, hn, hv, HR', T'⟩ := opB_sound hrelA HR (by rw [hopA]; exact hop)
            have := go v h₁ u w' ρ' hR hv HR' T'
            refine ⟨fun _ _ => trivial, ?_⟩
            rw [Oper.semAt_eq _ _ _ (opB_noDefer hop), hrun]
            rcases hn with rfl | ⟨rfl, rfl⟩ <;> exact this
          · obtain ⟨us, hus, hrun⟩ := opB_sound hrelA HR (e := by rw [hopA]; exact hop)
            obtain ⟨⟨fn, c, hf, hbd⟩, hcalls⟩ := hcq
            refine ⟨fun _ _ => trivial, ?_⟩
            rw [Oper.semAt_eq _ _ _ (opB_noDefer hop), hrun, run_callFunc hg hf hbd]
            refine ⟨fun hh => (by cases hh), callsIn_at.2 ((hcalls ρ us w hus HR).mono ?_)⟩
            rintro en w₁ ⟨v, h₁, u, ρ₁, rfl, hR, hv, H₁, T₁⟩
            exact go v h₁ u w₁ ρ₁ hR hv H₁ T₁
end
end
end Go.Am
