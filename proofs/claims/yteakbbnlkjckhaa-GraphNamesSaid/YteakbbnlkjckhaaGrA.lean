/- Layer 15, plain: needs, what rests on what, rows, heaps. -/
import Derived.KernelRfl
namespace Go.Gp
set_option linter.unusedVariables false
set_option linter.unusedSimpArgs false
abbrev Nd := List (List Nat)
def nd (M : Nd) (i : Nat) : List Nat := M.getD i []
def Ok (M : Nd) : Prop := ∀ i k, k ∈ nd M i → k < M.length
theorem nd_out {M : Nd} {i : Nat} (h : M.length ≤ i) : nd M i = [] := by
  unfold nd; rw [List.getD_eq_getElem?_getD, List.getElem?_eq_none h]; rfl
theorem nd_at {M : Nd} {i : Nat} {w : List Nat} (h : M[i]? = some w) : nd M i = w := by
  unfold nd; rw [List.getD_eq_getElem?_getD, h]; rfl
theorem at_nd {M : Nd} {i : Nat} (h : i < M.length) : M[i]? = some (nd M i) := by
  rw [List.getElem?_eq_getElem h, nd_at (List.getElem?_eq_getElem h)]
theorem nd_lt {M : Nd} {i k : Nat} (h : k ∈ nd M i) : i < M.length := by
  rcases Nat.lt_or_ge i M.length with h1 | h1
  · exact h1
  · rw [nd_out h1] at h; cases h
/-- From i one comes to k by one step or by several. -/
inductive Path (M : Nd) : Nat → Nat → Prop
  | one {i k : Nat} (h : k ∈ nd M i) : Path M i k
  | more {i j k : Nat} (h : j ∈ nd M i) (t : Path M j k) : Path M i k
theorem Path.trans {M : Nd} {i j k : Nat} (h : Path M i j) (t : Path M j k) : Path M i k := by
  induction h with
  | one h => exact .more h t
  | more h _ ih => exact .more h (ih t)
theorem Path.snoc {M : Nd} {i j k : Nat} (h : Path M i j) (t : k ∈ nd M j) : Path M i k := h.trans (.one t)
theorem Path.lt {M : Nd} {i k : Nat} (h : Path M i k) : i < M.length := by cases h <;> exact nd_lt (by assumption)
theorem Path.in {M : Nd} (hM : Ok M) {i k : Nat} (h : Path M i k) : k < M.length := by
  induction h with
  | one h => exact hM _ _ h
  | more _ _ ih => exact ih
theorem Path.back {M R : Nd} (hR : ∀ i k, k ∈ nd M i ↔ i ∈ nd R k) {i k : Nat} (h : Path M i k) : Path R k i := by
  induction h with
  | one h => exact .one ((hR _ _).1 h)
  | more h _ ih => exact ih.snoc ((hR _ _).1 h)
theorem Path.both {M R : Nd} (hR : ∀ i k, k ∈ nd M i ↔ i ∈ nd R k) (i k : Nat) : Path M i k ↔ Path R k i :=
  ⟨fun h => h.back hR, fun h => h.back fun a b => (hR b a).symm⟩
/-- The places at which a function says yes, rising. -/
def picks (b : Nat → Bool) (n : Nat) : List Nat := (List.range n).filter b
theorem picks_succ (b : Nat → Bool) (n : Nat) : picks b (n + 1) = picks b n ++ (if b n then [n] else []) := by
  unfold picks
  rw [List.range_succ, List.filter_append]
  by_cases h : b n <;> simp [h]
theorem mem_picks {b : Nat → Bool} {n k : Nat} : k ∈ picks b n ↔ k < n ∧ b k = true := by simp [picks]
theorem picks_congr {b c : Nat → Bool} {n : Nat} (h : ∀ k, k < n → b k = c k) : picks b n = picks c n := by
  unfold picks
  exact List.filter_congr fun k hk => h k (List.mem_range.1 hk)
theorem picks_len (b : Nat → Bool) (n : Nat) : (picks b n).length ≤ n := by
  have := List.length_filter_le b (List.range n)
  simpa [picks] using this
section
open Classical
noncomputable def below (M : Nd) (i : Nat) : List Nat := picks (fun k => decide (Path M i k)) M.length
theorem mem_below {M : Nd} (hM : Ok M) {i k : Nat} : k ∈ below M i ↔ Path M i k := by
  unfold below
  rw [mem_picks]
  exact ⟨fun h => of_decide_eq_true h.2, fun h => ⟨h.in hM, decide_eq_true h⟩⟩
noncomputable def above (M : Nd) (i : Nat) : List Nat := picks (fun k => decide (Path M k i)) M.length
theorem mem_above {M : Nd} {i k : Nat} : k ∈ above M i ↔ Path M k i := by
  unfold above
  rw [mem_picks]
  exact ⟨fun h => of_decide_eq_true h.2, fun h => ⟨h.lt, decide_eq_true h⟩⟩
theorem picks_below {M : Nd} {i : Nat} {b : Nat → Bool} (h : ∀ k, k < M.length → (b k = true ↔ Path M i k)) : picks b M.length = below M i := by
  refine picks_congr fun k hk => ?_
  by_cases hp : Path M i k
  · rw [(h k hk).2 hp]; exact (decide_eq_true hp).symm
  · rw [decide_eq_false hp]
    cases hb : b k with
    | true => exact absurd ((h k hk).1 hb) hp
    | false => rfl
theorem picks_above {M : Nd} {i : Nat} {b : Nat → Bool} (h : ∀ k, k < M.length → (b k = true ↔ Path M k i)) : picks b M.length = above M i := by
  refine picks_congr fun k hk => ?_
  by_cases hp : Path M k i
  · rw [(h k hk).2 hp]; exact (decide_eq_true hp).symm
  · rw [decide_eq_false hp]
    cases hb : b k with
    | true => exact absurd ((h k hk).1 hb) hp
    | false => rfl
/-- The same needs, the other way round. -/
def Turned (M R : Nd) : Prop := R.length = M.length ∧ ∀ k, k < M.length → ∀ i, (nd R k).count i = (nd M i).count k
theorem Turned.mem {M R : Nd} (hM : Ok M) (h : Turned M R) (i k : Nat) : k ∈ nd M i ↔ i ∈ nd R k := by
  rw [← List.one_le_count_iff, ← List.one_le_count_iff]
  by_cases hk : k < M.length
  · rw [h.2 k hk]
  · constructor
    · intro hc; exact absurd (hM i k (List.one_le_count_iff.1 hc)) hk
    · intro hc; rw [nd_out (by rw [h.1]; omega)] at hc; simp at hc
theorem Turned.ok {M R : Nd} (hM : Ok M) (h : Turned M R) : Ok R := fun k i hi => by
  rw [h.1]; exact nd_lt ((h.mem hM i k).2 hi)
theorem Turned.above {M R : Nd} (hM : Ok M) (h : Turned M R) (i : Nat) : below R i = above M i := by
  unfold below Gp.above
  rw [h.1]
  refine picks_congr fun k hk => ?_
  have := Path.both (h.mem hM) k i
  by_cases hp : Path M k i
  · rw [decide_eq_true hp, decide_eq_true (this.1 hp)]
  · rw [decide_eq_false hp, decide_eq_false fun hh => hp (this.2 hh)]
end
/-! ### The row -/
def ready (M : Nd) (row : List Nat) (i : Nat) : Bool := !row.contains i && (nd M i).all row.contains
theorem ready_iff {M : Nd} {row : List Nat} {i : Nat} : ready M row i = true ↔ i ∉ row ∧ ∀ k, k ∈ nd M i → k ∈ row := by
  simp [ready]
def nxt (M : Nd) (row : List Nat) : Option Nat := (List.range M.length).find? (ready M row)
def rowF (M : Nd) : Nat → List Nat → List Nat
  | 0, row => row
  | f + 1, row => match nxt M row with
    | none => row
    | some i => rowF M f (row ++ [i])
def topo (M : Nd) : List Nat := rowF M M.length []
theorem nxt_some {M : Nd} {row : List Nat} {i : Nat} : nxt M row = some i ↔ ready M row i = true ∧ i < M.length ∧ ∀ j, j < i → ready M row j = false := by
  unfold nxt
  rw [List.find?_range_eq_some]
  simp
theorem nxt_none {M : Nd} {row : List Nat} : nxt M row = none ↔ ∀ i, i < M.length → ready M row i = false := by
  unfold nxt
  simp
theorem rowF_none {M : Nd} {row : List Nat} (h : nxt M row = none) (f : Nat) : rowF M f row = row := by
  cases f with
  | zero => rfl
  | succ f => rw [rowF, h]
theorem nodup_len : ∀ (n : Nat) (l : List Nat), l.Nodup → (∀ x, x ∈ l → x < n) → l.length ≤ n
  | 0, l, _, h => by
    cases l with
    | nil => simp
    | cons x l => exact absurd (h x (List.mem_cons_self ..)) (by omega)
  | n + 1, l, hd, h => by
    by_cases hn : n ∈ l
    · have h1 := nodup_len n (l.erase n) (hd.erase n) fun x hx => by
        have h2 := (hd.mem_erase_iff).1 hx
        have := h x h2.2
        omega
      have := List.length_erase_of_mem hn
      omega
    · have := nodup_len n l hd fun x hx => by
        have h1 := h x hx
        have : x ≠ n := fun he => hn (he ▸ hx)
        omega
      omega
theorem nodup_len1 {n : Nat} {l : List Nat} (hd : l.Nodup) (h : ∀ x, x ∈ l → x < n) {i : Nat} (hi : i < n) (hn : i ∉ l) : l.length < n := by
  have := nodup_len n (i :: l) (List.nodup_cons.2 ⟨hn, hd⟩) fun x hx => by
    rcases List.mem_cons.1 hx with rfl | hx
    · exact hi
    · exact h x hx
  simp at this; omega
theorem nodup_all {n : Nat} {l : List Nat} (hd : l.Nodup) (h : ∀ x, x ∈ l → x < n) (hl : l.length = n) {i : Nat} (hi : i < n) : i ∈ l := by
  rcases Classical.em (i ∈ l) with h1 | h1
  · exact h1
  · have := nodup_len1 hd h hi h1; omega
/-- A row as far as it goes: each thing once, behind all that it needs. -/
def Row (M : Nd) (r : List Nat) : Prop := r.Nodup ∧ (∀ x, x ∈ r → x < M.length) ∧ ∀ p i, r[p]? = some i → ∀ k, k ∈ nd M i → k ∈ r.take p
theorem Row.nil (M : Nd) : Row M [] := ⟨List.nodup_nil, fun _ h => (by cases h), fun p i h => (by simp at h)⟩
theorem Row.in {M : Nd} {r : List Nat} (h : Row M r) {i k : Nat} (hi : i ∈ r) (hk : k ∈ nd M i) : k ∈ r := by
  obtain ⟨p, hp⟩ := List.getElem?_of_mem hi
  exact List.mem_of_mem_take (h.2.2 p i hp k hk)
theorem Row.snoc {M : Nd} {r : List Nat} (h : Row M r) {i : Nat} (hi : nxt M r = some i) : Row M (r ++ [i]) := by
  obtain ⟨h1, h2, h3⟩ := nxt_some.1 hi
  obtain ⟨h4, h5⟩ := ready_iff.1 h1
  refine ⟨List.nodup_append.2 ⟨h.1, by simp, fun a ha b hb => by simp at hb; subst hb; exact fun he => h4 (he ▸ ha)⟩, fun x hx => ?_, fun p j hp k hk => ?_⟩
  · rcases List.mem_append.1 hx with hx | hx
    · exact h.2.1 x hx
    · simp at hx; subst hx; exact h2
  · rcases Nat.lt_or_ge p r.length with hlt | hge
    · rw [List.getElem?_append_left hlt] at hp
      rw [List.take_append_of_le_length (by omega)]
      exact h.2.2 p j hp k hk
    · rw [List.getElem?_append_right hge] at hp
      have hp0 : p - r.length = 0 := by
        have := (List.getElem?_eq_some_iff.1 hp).1
        simp at this; omega
      rw [hp0] at hp
      simp at hp
      subst hp
      rw [show p = r.length by omega, List.take_left]
      exact h5 k hk
theorem rowF_row {M : Nd} : ∀ (f : Nat) (r : List Nat), Row M r → Row M (rowF M f r)
  | 0, r, h => h
  | f + 1, r, h => by
    rw [rowF]
    cases hn : nxt M r with
    | none => exact h
    | some i => exact rowF_row f _ (h.snoc hn)
theorem topo_row (M : Nd) : Row M (topo M) := rowF_row _ _ (.nil M)
theorem rowF_end {M : Nd} : ∀ (f : Nat) (r : List Nat), Row M r → r.length + f = M.length → nxt M (rowF M f r) = none
  | 0, r, h, hl => nxt_none.2 fun i hi => by
    have := nodup_all h.1 h.2.1 (by omega) hi
    show ready M r i = false
    simp [ready, this]
  | f + 1, r, h, hl => by
    rw [rowF]
    cases hn : nxt M r with
    | none => exact hn
    | some i => exact rowF_end f _ (h.snoc hn) (by simp; omega)
theorem topo_end (M : Nd) : nxt M (topo M) = none := rowF_end _ _ (.nil M) (by simp)
theorem topo_len (M : Nd) : (topo M).length ≤ M.length := nodup_len _ _ (topo_row M).1 (topo_row M).2.1
/-- So many things of the row are there. -/
def Part (M : Nd) (r : List Nat) : Prop := Row M r ∧ ∃ f, r.length + f = M.length ∧ topo M = rowF M f r
theorem Part.nil (M : Nd) : Part M [] := ⟨.nil M, M.length, by simp, rfl⟩
theorem Part.step {M : Nd} {r : List Nat} {i : Nat} (h : Part M r) (hn : nxt M r = some i) : Part M (r ++ [i]) := by
  obtain ⟨hr, f, hl, ht⟩ := h
  have h1 := nxt_some.1 hn
  have h2 := nodup_len1 hr.1 hr.2.1 h1.2.1 (ready_iff.1 h1.1).1
  obtain ⟨g, rfl⟩ : ∃ g, f = g + 1 := ⟨f - 1, by omega⟩
  refine ⟨hr.snoc hn, g, by simp; omega, ?_⟩
  rw [ht, rowF, hn]
theorem Part.end {M : Nd} {r : List Nat} (h : Part M r) (hn : nxt M r = none) : topo M = r := by
  obtain ⟨hr, f, hl, ht⟩ := h
  rw [ht, rowF_none hn]
theorem Part.full {M : Nd} {r : List Nat} (h : Part M r) (hl : r.length = M.length) : topo M = r :=
  h.end (nxt_none.2 fun i hi => by simp [ready, nodup_all h.1.1 h.1.2.1 hl hi])
theorem Part.len {M : Nd} {r : List Nat} (h : Part M r) : r.length ≤ M.length := nodup_len _ _ h.1.1 h.1.2.1
/-! ### No row -/
theorem Row.noCycle {M : Nd} {r : List Nat} (h : Row M r) : ∀ (p i : Nat), r[p]? = some i → ∀ k, Path M i k → k ∈ r.take p := by
  intro p i hp k hk
  induction hk generalizing p with
  | one hj => exact h.2.2 p _ hp _ hj
  | more hj _ ih =>
    rename_i i' j' k' t
    have h1 := h.2.2 p _ hp _ hj
    obtain ⟨q, hq⟩ := List.getElem?_of_mem h1
    have hlt : q < p := by
      have := (List.getElem?_eq_some_iff.1 hq).1
      simp at this; omega
    have hq' : r[q]? = some j' := by
      rw [List.getElem?_take, if_pos hlt] at hq; exact hq
    have := ih q hq'
    rw [show r.take q = (r.take p).take q by rw [List.take_take]; congr 1; omega] at this
    exact List.mem_of_mem_take this
theorem Row.notSelf {M : Nd} {r : List Nat} (h : Row M r) {i : Nat} (hi : i ∈ r) : ¬ Path M i i := fun hp => by
  obtain ⟨p, hpi⟩ := List.getElem?_of_mem hi
  have h1 := h.noCycle p i hpi i hp
  obtain ⟨q, hq⟩ := List.getElem?_of_mem h1
  have hlt : q < p := by
    have := (List.getElem?_eq_some_iff.1 hq).1
    simp at this; omega
  rw [List.getElem?_take, if_pos hlt] at hq
  have := (List.getElem?_inj (List.getElem?_eq_some_iff.1 hq).1 h.1).1 (hq.trans hpi.symm)
  omega
/-- Where each of some things needs another one of them, one of them rests on itself. -/
theorem cycle_of : ∀ (n : Nat) (M : Nd) (S : List Nat) (vis : List Nat) (x : Nat), Ok M → (∀ i, i ∈ S → ∃ k, k ∈ S ∧ k ∈ nd M i) → x ∈ S → (∀ y, y ∈ vis → Path M y x) → vis.Nodup → (∀ y, y ∈ vis → y < M.length) → M.length - vis.length = n → ∃ y, Path M y y
  | n, M, S, vis, x, hM, hS, hx, hv, hnd, hlt, hn => by
    by_cases hin : x ∈ vis
    · exact ⟨x, hv x hin⟩
    · obtain ⟨k, hk, hkx⟩ := hS x hx
      have hxl := nd_lt hkx
      have hl := nodup_len1 hnd hlt hxl hin
      match n, hn with
      | 0, hn => omega
      | n + 1, hn =>
        refine cycle_of n M S (x :: vis) k hM hS hk (fun y hy => ?_) (List.nodup_cons.2 ⟨hin, hnd⟩) (fun y hy => ?_) (by simp; omega)
        · rcases List.mem_cons.1 hy with rfl | hy
          · exact .one hkx
          · exact (hv y hy).snoc hkx
        · rcases List.mem_cons.1 hy with rfl | hy
          · exact hxl
          · exact hlt y hy
theorem topo_cycle {M : Nd} (hM : Ok M) : (topo M).length < M.length ↔ ∃ i, Path M i i := by
  constructor
  · intro hl
    have hr := topo_row M
    have he := nxt_none.1 (topo_end M)
    have hx : ∃ x, x < M.length ∧ x ∉ topo M := by
      rcases Classical.em (∃ x, x < M.length ∧ x ∉ topo M) with h | h
      · exact h
      · exact absurd (List.Nodup.length_le_of_subset (List.nodup_range (n := M.length)) (fun y hy => Classical.byContradiction fun hn => h ⟨y, List.mem_range.1 hy, hn⟩)) (by simp; omega)
    obtain ⟨x, hxl, hxn⟩ := hx
    refine cycle_of _ M ((List.range M.length).filter fun y => decide (y ∉ topo M)) [] x hM (fun i hi => ?_) (by simp [hxl, hxn]) (fun y hy => by cases hy) List.nodup_nil (fun y hy => by cases hy) rfl
    simp only [List.mem_filter, List.mem_range, decide_eq_true_eq] at hi ⊢
    have h2 := he i hi.1
    have h3 : ¬ (i ∉ topo M ∧ ∀ k, k ∈ nd M i → k ∈ topo M) := fun hh => by rw [ready_iff.2 hh] at h2; cases h2
    rcases Classical.em (∃ k, k ∈ nd M i ∧ k ∉ topo M) with ⟨k, hk, hkn⟩ | h4
    · exact ⟨k, ⟨hM i k hk, hkn⟩, hk⟩
    · exact absurd ⟨hi.2, fun k hk => Classical.byContradiction fun hn => h4 ⟨k, hk, hn⟩⟩ h3
  · rintro ⟨i, hp⟩
    rcases Nat.lt_or_ge (topo M).length M.length with h | h
    · exact h
    · have hr := topo_row M
      have := topo_len M
      exact absurd hp (hr.notSelf (nodup_all hr.1 hr.2.1 (by omega) hp.lt))
end Go.Gp
