/- Layer 15: the law GraphRow. -/
import Derived.Test.YteakbbnlkjckhaaGrR
namespace Go.Gp
set_option linter.unusedVariables false
set_option linter.unusedSimpArgs false
/-- One more than the greatest level of some things, or 0. -/
def mxl (lv : List Nat) (w : List Nat) : Nat := w.foldl (fun m k => max m (at' lv k + 1)) 0
theorem mxl_snoc (lv w : List Nat) (k : Nat) : mxl lv (w ++ [k]) = max (mxl lv w) (at' lv k + 1) := by unfold mxl; rw [List.foldl_append]; rfl
theorem mxl_congr {lv lv' w : List Nat} (h : ∀ k, k ∈ w → at' lv k = at' lv' k) : mxl lv w = mxl lv' w := by
  unfold mxl
  have key : ∀ (w : List Nat) (m : Nat), (∀ k, k ∈ w → at' lv k = at' lv' k) → w.foldl (fun m k => max m (at' lv k + 1)) m = w.foldl (fun m k => max m (at' lv' k + 1)) m := by
    intro w
    induction w with
    | nil => intro m _; rfl
    | cons k w ih =>
      intro m h
      rw [List.foldl_cons, List.foldl_cons, h k (List.mem_cons_self ..)]
      exact ih _ fun j hj => h j (List.mem_cons_of_mem _ hj)
  exact key w 0 h
theorem fold_at {i : Nat} {lv : List Nat} (hi : i < lv.length) (h0 : at' lv i = 0) : ∀ (w : List Nat), i ∉ w → (∀ x, x ≠ i → at' (w.foldl (lv1 i) lv) x = at' lv x) ∧ at' (w.foldl (lv1 i) lv) i = mxl lv w := by
  intro w
  have key : ∀ n, n ≤ w.length → i ∉ w → (∀ x, x ≠ i → at' ((w.take n).foldl (lv1 i) lv) x = at' lv x) ∧ at' ((w.take n).foldl (lv1 i) lv) i = mxl lv (w.take n) := by
    intro n
    induction n with
    | zero => intro _ _; exact ⟨fun x _ => rfl, by simp [mxl, h0]⟩
    | succ n ih =>
      intro hn hiw
      obtain ⟨a1, a2⟩ := ih (by omega) hiw
      have hk : w[n]? = some w[n] := List.getElem?_eq_getElem (by omega)
      have hki : w[n] ≠ i := fun h => hiw (h ▸ List.getElem_mem _)
      rw [take_snoc' hk, List.foldl_append]
      have hl : i < ((w.take n).foldl (lv1 i) lv).length := by rw [fold_lv1]; exact hi
      generalize (w.take n).foldl (lv1 i) lv = T at a1 a2 hl
      generalize w[n] = k at hki
      show (∀ x, x ≠ i → at' (lv1 i T k) x = at' lv x) ∧ at' (lv1 i T k) i = mxl lv (w.take n ++ [k])
      unfold lv1
      refine ⟨fun x hx => ?_, ?_⟩
      · rw [at_set hl, if_neg hx]; exact a1 x hx
      · rw [at_set hl, if_pos rfl, mxl_snoc, a2, a1 _ hki]
  have := key w.length (Nat.le_refl _)
  rw [List.take_length] at this
  exact this
theorem lev_spec {M : Nd} {r : List Nat} (hr : Row M r) : ∀ p, p ≤ r.length → (∀ x, x ∉ r.take p → at' ((r.take p).foldl (lvI M) (List.replicate M.length 0)) x = 0) ∧ ∀ x, x ∈ r.take p → at' ((r.take p).foldl (lvI M) (List.replicate M.length 0)) x = mxl ((r.take p).foldl (lvI M) (List.replicate M.length 0)) (nd M x) := by
  intro p
  induction p with
  | zero =>
    intro _
    refine ⟨fun x _ => ?_, fun x hx => by simp at hx⟩
    show at' (List.replicate M.length 0) x = 0
    unfold at'; rw [List.getD_eq_getElem?_getD, List.getElem?_replicate]; split <;> rfl
  | succ p ih =>
    intro hp
    obtain ⟨a1, a2⟩ := ih (by omega)
    have hi : r[p]? = some r[p] := List.getElem?_eq_getElem (by omega)
    generalize r[p] = i at hi
    have hin : i < M.length := hr.2.1 i (List.mem_of_getElem? hi)
    have hnot : i ∉ r.take p := fun hm => by
      obtain ⟨q, hq⟩ := List.getElem?_of_mem hm
      have hlt : q < p := by
        have := (List.getElem?_eq_some_iff.1 hq).1
        simp at this; omega
      rw [List.getElem?_take, if_pos hlt] at hq
      have := (List.getElem?_inj (List.getElem?_eq_some_iff.1 hq).1 hr.1).1 (hq.trans hi.symm)
      omega
    have hneed : ∀ k, k ∈ nd M i → k ∈ r.take p := hr.2.2 p i hi
    have hiw : i ∉ nd M i := fun h => hnot (hneed i h)
    rw [take_snoc' hi, List.foldl_append]
    generalize hlv : (r.take p).foldl (lvI M) (List.replicate M.length 0) = lv at a1 a2
    show (∀ x, x ∉ r.take p ++ [i] → at' ((nd M i).foldl (lv1 i) lv) x = 0) ∧ ∀ x, x ∈ r.take p ++ [i] → at' ((nd M i).foldl (lv1 i) lv) x = mxl ((nd M i).foldl (lv1 i) lv) (nd M x)
    have hil : i < lv.length := by rw [← hlv, fold_lvI]; simpa using hin
    obtain ⟨b1, b2⟩ := fold_at hil (a1 i hnot) (nd M i) hiw
    refine ⟨fun x hx => ?_, fun x hx => ?_⟩
    · simp only [List.mem_append, List.mem_singleton, not_or] at hx
      rw [b1 x hx.2]; exact a1 x hx.1
    · rcases List.mem_append.1 hx with hx1 | hx1
      · have hxi : x ≠ i := fun h => hnot (h ▸ hx1)
        rw [b1 x hxi, a2 x hx1]
        refine mxl_congr fun k hk => (b1 k fun h => ?_).symm
        subst h
        obtain ⟨q, hq⟩ := List.getElem?_of_mem hx1
        have hlt : q < p := by
          have := (List.getElem?_eq_some_iff.1 hq).1
          simp at this; omega
        rw [List.getElem?_take, if_pos hlt] at hq
        have h3 := hr.2.2 q x hq k hk
        exact hnot (List.mem_of_mem_take (show k ∈ (r.take p).take q by rw [List.take_take, Nat.min_eq_left (by omega)]; exact h3))
      · simp at hx1; subst hx1
        rw [b2]
        exact mxl_congr fun k hk => (b1 k fun h => hiw (h ▸ hk)).symm
theorem lev_all {M : Nd} {r : List Nat} (hr : Row M r) (hl : r.length = M.length) {x : Nat} (hx : x < M.length) : at' (levF M r) x = mxl (levF M r) (nd M x) := by
  have h := (lev_spec hr r.length (Nat.le_refl _)).2 x
  rw [List.take_length] at h
  exact h (nodup_all hr.1 hr.2.1 hl hx)
/-- Where things stand in a row. -/
structure Pl (M : Nd) (r pl : List Nat) (i : Nat) : Prop where
  len : pl.length = M.length
  there : ∀ p x, p < i → r[p]? = some x → at' pl x = p + 1
  not : ∀ x, x ∉ r.take i → at' pl x = 0
theorem Pl.start (M : Nd) (r : List Nat) : Pl M r (List.replicate M.length 0) 0 :=
  ⟨by simp, fun p x h => by omega, fun x _ => by unfold at'; rw [List.getD_eq_getElem?_getD, List.getElem?_replicate]; split <;> rfl⟩
theorem Row.fresh {M : Nd} {r : List Nat} (hr : Row M r) {i x : Nat} (hx : r[i]? = some x) : x ∉ r.take i := fun hm => by
  obtain ⟨q, hq⟩ := List.getElem?_of_mem hm
  have hlt : q < i := by
    have := (List.getElem?_eq_some_iff.1 hq).1
    simp at this; omega
  rw [List.getElem?_take, if_pos hlt] at hq
  have := (List.getElem?_inj (List.getElem?_eq_some_iff.1 hq).1 hr.1).1 (hq.trans hx.symm)
  omega
theorem Pl.step {M : Nd} {r pl : List Nat} {i x : Nat} (h : Pl M r pl i) (hr : Row M r) (hx : r[i]? = some x) : Pl M r (pl.set x (i + 1)) (i + 1) := by
  have hxn := hr.2.1 x (List.mem_of_getElem? hx)
  have hfresh := hr.fresh hx
  refine ⟨by simpa using h.len, fun p y hp hy => ?_, fun y hy => ?_⟩
  · rw [at_set (by rw [h.len]; exact hxn)]
    by_cases hpi : p = i
    · subst hpi
      rw [hx] at hy; simp at hy; subst hy
      rw [if_pos rfl]
    · have hne : y ≠ x := fun he => by
        subst he
        have := (List.getElem?_inj (List.getElem?_eq_some_iff.1 hy).1 hr.1).1 (hy.trans hx.symm)
        exact hpi this
      rw [if_neg hne]
      exact h.there p y (by omega) hy
  · rw [take_snoc' hx] at hy
    simp only [List.mem_append, List.mem_singleton, not_or] at hy
    rw [at_set (by rw [h.len]; exact hxn), if_neg hy.2]
    exact h.not y hy.1
theorem Pl.less {M : Nd} {r pl : List Nat} (h : Pl M r pl r.length) (hr : Row M r) (hl : r.length = M.length) {i k : Nat} (hi : i < M.length) (hk : k ∈ nd M i) : at' pl k < at' pl i := by
  obtain ⟨p, hp⟩ := List.getElem?_of_mem (nodup_all hr.1 hr.2.1 hl hi)
  have hkp := hr.2.2 p i hp k hk
  obtain ⟨q, hq⟩ := List.getElem?_of_mem hkp
  have hlt : q < p := by
    have := (List.getElem?_eq_some_iff.1 hq).1
    simp at this; omega
  rw [List.getElem?_take, if_pos hlt] at hq
  have hpl := (List.getElem?_eq_some_iff.1 hp).1
  rw [h.there p i hpl hp, h.there q k (by omega) hq]
  omega
end Go.Gp
