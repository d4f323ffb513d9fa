/- What bastionlaw01's ask and one do. -/
import Derived.Test.YtafdglicbddicaaThing
namespace Go.Proofs.Ytafdglicbddicaa
open Go.RowKit

/-- How many bytes a thing that is asked for takes; 0: none stands there. -/
def Th.sz (t : Th) (bs : List UInt8) : Nat := if t.k.toNat = 0 then (gat bs).2 else if t.k.toNat = 1 then (cAt bs t.n).2 else if t.k.toNat = 2 then (sAt bs t.n).2 else (fAt bs).2
/-- The number that is told. -/
def Th.tn (t : Th) (bs : List UInt8) : Int := if t.k.toNat = 0 then unz (gat bs).1 else if t.k.toNat = 1 then ((cAt bs t.n).1 : Int) else if t.k.toNat = 2 then 0 else if (fAt bs).1 then 1 else 0
/-- The text that is told. -/
def Th.ts (t : Th) (bs : List UInt8) : List UInt8 := if t.k.toNat = 2 then (sAt bs t.n).1 else []
def toldV (n : Int) (l : List UInt8) : Value := .agg #[.int .i64 n, .string ⟨l.toArray⟩]

set_option maxRecDepth 20000 in
set_option maxHeartbeats 400000 in
theorem one_any (v : Bool) (w : World) : Calls Try.prog 36 #[.bool v] w fun e w' => e = .returned (.int .i64 (if v then 1 else 0)) ∧ w = w' := by
  cases v
  all_goals
    go_enter Try.func36, Try.ntmps36
    go_wp2
    go_ret
    exact ⟨rfl, rfl⟩

def oneI (v : Bool) : Int := if v then 1 else 0
theorem one_any' (v : Bool) (w : World) : Calls Try.prog 36 #[.bool v] w fun e w' => e = .returned (.int .i64 (oneI v)) ∧ w = w' := one_any v w

/-- The end of ask: the told thing lies in a block of its own. -/
theorem ask_parts {w w1 : World} {g b lo : Nat} {cs : Array Value} {o o' : Obj} {bs : List UInt8} {f : Bool} {x y : Value} (hB : Bk w1 b 46 cs) (hc : cs.size = 2) (hgb : g < b) (hb : w.heap.size ≤ b)
    (hr : Rdr w1 g lo bs f) (hg : ((w.alloc o).alloc o').grownBy w1 (some g)) :
    ((w1.setCell ⟨b, 0, none⟩ x).setCell ⟨b, 1, none⟩ y).cell? ⟨b, 0, none⟩ = some x ∧ ((w1.setCell ⟨b, 0, none⟩ x).setCell ⟨b, 1, none⟩ y).cell? ⟨b, 1, none⟩ = some y ∧
      Rdr ((w1.setCell ⟨b, 0, none⟩ x).setCell ⟨b, 1, none⟩ y) g lo bs f ∧ w.grownBy ((w1.setCell ⟨b, 0, none⟩ x).setCell ⟨b, 1, none⟩ y) (some g) := by
  obtain ⟨l⟩ := cs
  match l, hc with
  | [u, v], _ =>
    have h2 : Bk ((w1.setCell ⟨b, 0, none⟩ x).setCell ⟨b, 1, none⟩ y) b 46 #[x, y] := by
      have := (hB.set_ 0 x).set_ 1 y
      simpa using this
    have d0 := h2.cell 0
    have d1 := h2.cell 1
    simp only [List.getElem?_toArray, List.getElem?_cons_zero, List.getElem?_cons_succ] at d0 d1
    have hg1 : w.grownBy w1 (some g) := by_trans (by_alloc (by_alloc (by_refl _ _) _) _) hg
    exact ⟨d0, d1, (hr.far (p := ⟨b, 0, none⟩) hgb x).far (p := ⟨b, 1, none⟩) hgb y, by_set (p := ⟨b, 1, none⟩) (by_set (p := ⟨b, 0, none⟩) hg1 (.inr hb) x) (.inr hb) y⟩

/-- What a reader leaves behind that was asked for a thing. -/
def Asked (w : World) (g lo : Nat) (t : Th) (bs : List UInt8) (f : Bool) (e : Ending) (w' : World) : Prop :=
  Took w g lo (toldV (got (stp bs f (t.sz bs)).2 0 (t.tn bs)) (got (stp bs f (t.sz bs)).2 [] (t.ts bs))) (stp bs f (t.sz bs)) e w'

theorem got_same {α : Type} (f : Bool) (z : α) : got f z z = z := by unfold got; split <;> rfl
theorem asked0 {w : World} {g lo : Nat} {t : Th} {bs : List UInt8} {f : Bool} {e : Ending} {w' : World} (h : t.k.toNat = 0)
    (k : Took w g lo (toldV (got (stp bs f (gat bs).2).2 0 (unz (gat bs).1)) []) (stp bs f (gat bs).2) e w') : Asked w g lo t bs f e w' := by
  unfold Asked Th.sz Th.tn Th.ts
  rw [if_pos h, if_pos h, if_neg (by omega), got_same]
  exact k
theorem asked1 {w : World} {g lo : Nat} {t : Th} {bs : List UInt8} {f : Bool} {e : Ending} {w' : World} (h : t.k.toNat = 1)
    (k : Took w g lo (toldV (got (stp bs f (cAt bs t.n).2).2 0 ((cAt bs t.n).1 : Int)) []) (stp bs f (cAt bs t.n).2) e w') : Asked w g lo t bs f e w' := by
  unfold Asked Th.sz Th.tn Th.ts
  rw [if_neg (by omega), if_pos h, if_neg (by omega), if_pos h, if_neg (by omega), got_same]
  exact k
theorem asked2 {w : World} {g lo : Nat} {t : Th} {bs : List UInt8} {f : Bool} {e : Ending} {w' : World} (h : t.k.toNat = 2)
    (k : Took w g lo (toldV 0 (got (stp bs f (sAt bs t.n).2).2 [] (sAt bs t.n).1)) (stp bs f (sAt bs t.n).2) e w') : Asked w g lo t bs f e w' := by
  unfold Asked Th.sz Th.tn Th.ts
  rw [if_neg (by omega), if_neg (by omega), if_pos h, if_neg (by omega), if_neg (by omega), if_pos h, if_pos h, got_same]
  exact k
theorem got_one (f v : Bool) : oneI (got f false v) = got f 0 (if v then 1 else 0) := by cases f <;> cases v <;> rfl
theorem asked3 {w : World} {g lo : Nat} {t : Th} {bs : List UInt8} {f : Bool} {e : Ending} {w' : World} (h : 2 < t.k.toNat)
    (k : Took w g lo (toldV (oneI (got (stp bs f (fAt bs).2).2 false (fAt bs).1)) []) (stp bs f (fAt bs).2) e w') : Asked w g lo t bs f e w' := by
  unfold Asked Th.sz Th.tn Th.ts
  have z0 : ¬ t.k.toNat = 0 := by omega
  have z1 : ¬ t.k.toNat = 1 := by omega
  have z2 : ¬ t.k.toNat = 2 := by omega
  simp only [if_neg z0, if_neg z1, if_neg z2]
  rw [got_same, ← got_one]
  exact k

set_option maxRecDepth 20000 in
set_option maxHeartbeats 1000000 in
theorem ask_any (t : Th) (g : Nat) {lo : Nat} (bs : List UInt8) (f : Bool) (w : World) (hr : Rdr w g lo bs f) (ht : t.ok) :
    Calls Try.prog 25 #[t.val, .pointer (some ⟨g, 0, none⟩)] w (Asked w g lo t bs f) := by
  obtain ⟨k, N, s⟩ := t
  obtain ⟨n0, n1, _⟩ := ht
  unfold Th.val
  simp only at n0 n1 ⊢
  have h0 := Lib.hid n0
  have h1 := Lib.hid n1
  have hg := hr.lt
  obtain ⟨q, hq⟩ : ∃ q, q = k.toNat := ⟨_, rfl⟩
  rw [← hq]
  have HQ := Lib.hid hq
  clear hq n0 n1
  have hk : ∀ o o', Rdr ((w.alloc o).alloc o') g lo bs f := fun o o' => (hr.keep ((Below.refl _ _).alloc (Nat.le_refl _) o)).keep ((Below.refl _ _).alloc (Nat.le_refl _) o')
  have HK := Lib.hid hk
  clear hk
  rcases (show q = 0 ∨ q = 1 ∨ q = 2 ∨ 2 < q by omega) with rfl | rfl | rfl | h2
  · go_enter Try.func25, Try.ntmps25
    go_wp2_with ((go_at_call 15; ((with_reducible refine (rNum_any _ g bs f (HK.out _ _)).mono ?_); rintro e w1 ⟨rfl, hr1, hg1⟩; have hB := blk2 hg1 hg; have c0 := hB.cell 0; have c1 := hB.cell 1; have f0 := hB.frozen 0; have f1 := hB.frozen 1; simp only [List.getElem?_toArray, List.getElem?_cons_zero, List.getElem?_cons_succ] at c0 c1)))
    obtain ⟨d0, d1, hr2, hg2⟩ := ask_parts (x := .int .i64 (got (stp bs f (gat bs).2).2 0 (unz (gat bs).1))) (y := .string ⟨#[]⟩) hB rfl (by omega) (by omega) hr1 hg1
    exact bodyPost_ret (v := toldV (got (stp bs f (gat bs).2).2 0 (unz (gat bs).1)) []) (by simp [results, Try.results25, go_sem, d0, d1, toldV]) rfl (asked0 HQ.out.symm ⟨rfl, hr2, hg2⟩)
  · go_enter Try.func25, Try.ntmps25
    go_wp2_with ((go_at_call 16; ((with_reducible refine (rCount_any _ g bs f N (HK.out _ _) h0.out h1.out).mono ?_); rintro e w1 ⟨rfl, hr1, hg1⟩; have hB := blk2 hg1 hg; have c0 := hB.cell 0; have c1 := hB.cell 1; have f0 := hB.frozen 0; have f1 := hB.frozen 1; simp only [List.getElem?_toArray, List.getElem?_cons_zero, List.getElem?_cons_succ] at c0 c1)))
    obtain ⟨d0, d1, hr2, hg2⟩ := ask_parts (x := .int .i64 (got (stp bs f (cAt bs N).2).2 0 ((cAt bs N).1 : Int))) (y := .string ⟨#[]⟩) hB rfl (by omega) (by omega) hr1 hg1
    exact bodyPost_ret (v := toldV (got (stp bs f (cAt bs N).2).2 0 ((cAt bs N).1 : Int)) []) (by simp [results, Try.results25, go_sem, d0, d1, toldV]) rfl (asked1 HQ.out.symm ⟨rfl, hr2, hg2⟩)
  · go_enter Try.func25, Try.ntmps25
    go_wp2_with ((go_at_call 17; ((with_reducible refine (rStr_any _ g bs f N (HK.out _ _) h0.out h1.out).mono ?_); rintro e w1 ⟨rfl, hr1, hg1⟩; have hB := blk2 hg1 hg; have c0 := hB.cell 0; have c1 := hB.cell 1; have f0 := hB.frozen 0; have f1 := hB.frozen 1; simp only [List.getElem?_toArray, List.getElem?_cons_zero, List.getElem?_cons_succ] at c0 c1)))
    obtain ⟨d0, d1, hr2, hg2⟩ := ask_parts (x := .int .i64 0) (y := .string ⟨(got (stp bs f (sAt bs N).2).2 [] (sAt bs N).1).toArray⟩) hB rfl (by omega) (by omega) hr1 hg1
    exact bodyPost_ret (v := toldV 0 (got (stp bs f (sAt bs N).2).2 [] (sAt bs N).1)) (by simp [results, Try.results25, go_sem, d0, d1, toldV]) rfl (asked2 HQ.out.symm ⟨rfl, hr2, hg2⟩)
  · have e0 : ((q : Int) == 0) = false := by simp; omega
    have e1 : ((q : Int) == 1) = false := by simp; omega
    have e2 : ((q : Int) == 2) = false := by simp; omega
    go_enter Try.func25, Try.ntmps25
    go_wp2_with (first
      | (go_at_call 18; ((with_reducible refine (rFlag_any _ g bs f (HK.out _ _)).mono ?_); rintro e w1 ⟨rfl, hr1, hg1⟩; have hB := blk2 hg1 hg; have c0 := hB.cell 0; have c1 := hB.cell 1; have f0 := hB.frozen 0; have f1 := hB.frozen 1; simp only [List.getElem?_toArray, List.getElem?_cons_zero, List.getElem?_cons_succ] at c0 c1))
      | (go_at_call 36; ((with_reducible refine (one_any' _ _).mono ?_); rintro e w2 ⟨rfl, rfl⟩)))
    obtain ⟨d0, d1, hr2, hg2⟩ := ask_parts (x := .int .i64 (oneI (got (stp bs f (fAt bs).2).2 false (fAt bs).1))) (y := .string ⟨#[]⟩) hB rfl (by omega) (by omega) hr1 hg1
    exact bodyPost_ret (v := toldV (oneI (got (stp bs f (fAt bs).2).2 false (fAt bs).1)) []) (by simp [results, Try.results25, go_sem, d0, d1, toldV]) rfl (asked3 (by have := HQ.out; simp only; omega) ⟨rfl, hr2, hg2⟩)

end Go.Proofs.Ytafdglicbddicaa
