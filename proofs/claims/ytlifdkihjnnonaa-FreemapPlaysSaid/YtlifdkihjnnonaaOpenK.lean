/- A list of steps of two numbers that is handed in. -/
import Derived.Test.YtlifdkihjnnonaaOpenI
import Derived.ChangeArms
namespace Go.Proofs.Ytlifdkihjnnonaa
open Go.ChangeShapes Go.WideShapes Go.ChangeAt Go.RowKit
set_option linter.unusedVariables false

/-- A step: its kind, its block. -/
structure Kn where
  k : Int
  n : Int
def Kn.cells (t : Kn) : List Value := [.int .i64 t.k, .int .i64 t.n]
def Kn.ok (t : Kn) : Prop := (-9223372036854775808 ≤ t.k ∧ t.k ≤ 9223372036854775807) ∧ (-9223372036854775808 ≤ t.n ∧ t.n ≤ 9223372036854775807)
theorem kns_flat (ts : List Kn) : Am.allFlat (ts.flatMap Kn.cells) = true := by
  induction ts with
  | nil => rfl
  | cons t r ih => simp only [List.flatMap_cons, Kn.cells, List.cons_append, List.nil_append, Am.allFlat]; exact ih

section
variable {H : Type} {enc : TypeId × Value → H} {P : Program} {W : World} {r : Reach} {b0 : Nat}
theorem kn_cells {t : TypeId} {g0 g1 : Field} (ht : P.underlying t = some (.struct #[g0, g1])) (e0 : g0.offset = 0 ∧ g1.offset = 1)
    (h0 : P.underlying g0.type = some (.int .i64)) (h1 : P.underlying g1.type = some (.int .i64))
    (hc : P.cellsOf g0.type = 1 ∧ P.cellsOf g1.type = 1) (h3 : P.cellsOf t = 2)
    {w : World} {n : Nat} {cs : List Value} {x : DataW H × List MemPlace} (h : DataW.trod enc P w 0 (fun _ => true) true n t cs = some x) :
    ∃ a : Kn, ((∀ m ∈ x.1.weights P t, m ≤ reachBytes) → a.ok) ∧ cs = a.cells := by
  obtain ⟨xs, m, _, hxs, hlen, hxl, hg⟩ := DataW.trod_struct ht h
  rw [h3] at hlen
  match cs, hlen with
  | [c0, c1], _ =>
    have q0 := hg 0 g0 rfl
    have q1 := hg 1 g1 rfl
    rw [e0.1, hc.1] at q0
    rw [e0.2, hc.2] at q1
    simp only [List.drop_zero, List.drop_succ_cons, List.take_succ_cons, List.take_zero] at q0 q1
    have hx : ∀ (i : Nat) (f : Field), (#[g0, g1] : Array Field)[i]? = some f → ∃ y, xs[i]? = some y := by
      intro i f hf
      have hi : i < 2 := (Array.getElem?_eq_some_iff.1 hf).1
      have hl : xs.length = 2 := hxl
      exact ⟨_, List.getElem?_eq_getElem (by omega)⟩
    obtain ⟨y0, hy0⟩ := hx 0 g0 rfl
    obtain ⟨y1, hy1⟩ := hx 1 g1 rfl
    obtain ⟨a0, r0, s0, w0⟩ := DataW.trod_int h0 (q0.trans hy0)
    obtain ⟨a1, r1, s1, w1⟩ := DataW.trod_int h1 (q1.trans hy1)
    simp only [List.cons.injEq, and_true] at r0 r1
    subst r0; subst r1
    have b0 := wf_i64 w0
    have b1 := wf_i64 w1
    have hx1 : x.1 = .agg [.lit (.int .i64 a0), .lit (.int .i64 a1)] := by
      rw [hxs]
      have e : xs = [y0, y1] := by
        apply List.ext_getElem?
        intro i
        match i with
        | 0 => exact hy0
        | 1 => exact hy1
        | i + 2 =>
          have hl : xs.length = 2 := hxl
          rw [List.getElem?_eq_none (by omega)]
          rfl
      rw [e, s0, s1]
      rfl
    exact ⟨⟨a0, a1⟩, fun _ => ⟨b0, b1⟩, rfl⟩

/-- The slice reads as the steps ts. -/
def SlK (w : World) (S : Nat → Prop) (A : Option Addr) (n : Nat) (ts : List Kn) : Prop := Sl w S 2 A n (ts.flatMap Kn.cells)

theorem kn_at (ts : List Kn) : ∀ (i j : Nat) (a : Kn), ts[i]? = some a → j < 2 → (ts.flatMap Kn.cells)[i * 2 + j]? = a.cells[j]? := by
  induction ts with
  | nil => intro i j a h; simp at h
  | cons b r ih =>
    intro i j a h hj
    rw [List.flatMap_cons]
    cases i with
    | zero =>
      simp only [List.getElem?_cons_zero, Option.some.injEq] at h
      subst h
      rw [Nat.zero_mul, Nat.zero_add, List.getElem?_append_left (by simp [Kn.cells]; omega)]
    | succ i =>
      rw [List.getElem?_cons_succ] at h
      rw [List.getElem?_append_right (by simp [Kn.cells]; omega)]
      rw [← ih i j a h hj]
      congr 1
      simp [Kn.cells]
      omega
theorem kn_len (ts : List Kn) : (ts.flatMap Kn.cells).length = ts.length * 2 := by
  induction ts with
  | nil => rfl
  | cons a r ih => rw [List.flatMap_cons, List.length_append, ih]; simp [Kn.cells]; omega
theorem kn_of (f : Nat → Kn) (n j : Nat) (u : Value) (h : (((List.range n).map f).flatMap Kn.cells)[j]? = some u) : j / 2 < n ∧ (f (j / 2)).cells[j % 2]? = some u := by
  have hl : j < n * 2 := by
    have := (List.getElem?_eq_some_iff.1 h).1
    rw [kn_len] at this
    simpa using this
  have hj : j / 2 < n := by omega
  refine ⟨hj, ?_⟩
  rw [← h, show j = j / 2 * 2 + j % 2 by omega]
  rw [kn_at _ (j / 2) (j % 2) (f (j / 2)) (by simp [hj]) (by omega)]
  rw [show (j / 2 * 2 + j % 2) / 2 = j / 2 by omega, show (j / 2 * 2 + j % 2) % 2 = j % 2 by omega]

theorem open_kns {t e : TypeId} {g0 g1 : Field} (hsl : P.underlying t = some (.slice e)) (ht : P.underlying e = some (.struct #[g0, g1])) (e0 : g0.offset = 0 ∧ g1.offset = 1)
    (h0 : P.underlying g0.type = some (.int .i64)) (h1 : P.underlying g1.type = some (.int .i64))
    (hc : P.cellsOf g0.type = 1 ∧ P.cellsOf g1.type = 1) (h3 : P.cellsOf e = 2)
    {v : Value} {d : DataW H} {p : List MemPlace} (hv : Value.okWide P W r b0 t v) (h : DataW.Trod enc P W 0 (fun _ => true) true t v d p) (hz : ∀ m ∈ d.weights P t, m ≤ reachBytes) :
    ∃ (A : Option Addr) (n c : Nat) (ts : List Kn), v = .slice A n c ∧ SlK W Any A n ts ∧ (∀ a ∈ ts, a.ok) ∧ n ≤ c ∧ c ≤ maxLen := by
  obtain ⟨A, n, c, rfl⟩ := okWide_slice hsl hv
  obtain ⟨fuel, hf⟩ := h
  rcases Go.Deep.open_slice hsl hf with ⟨hcs, _⟩ | ⟨a, len, cap, m, q, D, Pl, hcs, hb, hl, hm, hmm, hx, hi⟩
  · simp [Value.cells] at hcs
    obtain ⟨rfl, rfl, rfl⟩ := hcs
    exact ⟨none, 0, 0, [], rfl, Sl.nil_, by simp, Nat.le_refl _, Nat.zero_le _⟩
  · simp [Value.cells] at hcs
    obtain ⟨rfl, rfl, rfl⟩ := hcs
    have hmc : m = c := by simpa using hmm
    subst hmc
    have hx1 : d = .slice ((List.range n).map D) ((List.range (m - n)).map fun j => D (n + j)) := by
      injection hx
    have hth : ∀ i, ∃ b : Kn, (i < n → b.ok) ∧ (i < m → W.cells? 0 (a.add (i * 2)) 2 = some b.cells) := by
      intro i
      by_cases him : i < m
      · obtain ⟨cs', hcl, htr⟩ := hi i him
        rw [h3] at hcl
        obtain ⟨b, hbk, rfl⟩ := kn_cells ht e0 h0 h1 hc h3 htr
        refine ⟨b, fun hin => hbk fun q hq => hz q ?_, fun _ => hcl⟩
        rw [hx1]
        simp only [DataW.weights, hsl]
        exact List.mem_cons_of_mem _ (List.mem_append_left _ (mem_weightsAll (List.mem_map.2 ⟨i, List.mem_range.2 hin, rfl⟩) hq))
      · exact ⟨⟨0, 0⟩, fun _ => ⟨by decide, by decide⟩, fun h => absurd h him⟩
    let f : Nat → Kn := fun i => Classical.choose (hth i)
    have hf1 : ∀ i, i < n → (f i).ok := fun i => (Classical.choose_spec (hth i)).1
    have hf2 : ∀ i, i < m → W.cells? 0 (a.add (i * 2)) 2 = some (f i).cells := fun i => (Classical.choose_spec (hth i)).2
    have key : ∀ j u, (((List.range n).map f).flatMap Kn.cells)[j]? = some u → W.cell? (a.add j) = some u := by
      intro j u hu
      obtain ⟨hj, hcell⟩ := kn_of f n j u hu
      obtain ⟨_, hcl, hat⟩ := World.cells?_some (hf2 (j / 2) (by omega))
      have := hat (j % 2) (by omega)
      rw [add_add, show j / 2 * 2 + j % 2 = j by omega] at this
      exact this.trans hcell
    refine ⟨some a, n, m, (List.range n).map f, rfl, ⟨by rw [kn_len]; simp, fun hn => ⟨a, rfl, trivial, ?_, key⟩⟩, ?_, hl, hm⟩
    · have := key 0 (.int .i64 (f 0).k) (by
        have := kn_at ((List.range n).map f) 0 0 (f 0) (by simp [hn]) (by omega)
        exact this)
      have := cell_lt this
      rwa [add_block] at this
    · intro b hb
      obtain ⟨i, hir, rfl⟩ := List.mem_map.1 hb
      exact hf1 i (List.mem_range.1 hir)
end
end Go.Proofs.Ytlifdkihjnnonaa
