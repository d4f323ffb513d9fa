/- A list of steps of blob that is handed in. -/
import Derived.Test.YteiiekfccecoiaaOpenI
import Derived.ChangeArms
namespace Go.Proofs.Yteiiekfccecoiaa
open Go.ChangeShapes Go.WideShapes Go.ChangeAt Go.RowKit
set_option linter.unusedVariables false

/-- A step: its kind, its size, its fill, which value. -/
structure Qp where
  k : UInt8
  n : Int
  c : UInt8
  p : Int
def Qp.cells (t : Qp) : List Value := [.int .u8 (t.k.toNat : Nat), .int .i64 t.n, .int .u8 (t.c.toNat : Nat), .int .i64 t.p]
def Qp.ok (t : Qp) : Prop := (-9223372036854775808 ≤ t.n ∧ t.n ≤ 9223372036854775807) ∧ (-9223372036854775808 ≤ t.p ∧ t.p ≤ 9223372036854775807)
theorem u8_of {a : Int} (h : 0 ≤ a ∧ a < 256) : ∃ b : UInt8, a = (b.toNat : Nat) := ⟨UInt8.ofNat a.toNat, by
  have : (UInt8.ofNat a.toNat).toNat = a.toNat := by simp; omega
  omega⟩
theorem qps_flat (ts : List Qp) : Am.allFlat (ts.flatMap Qp.cells) = true := by
  induction ts with
  | nil => rfl
  | cons t r ih => simp only [List.flatMap_cons, Qp.cells, List.cons_append, List.nil_append, Am.allFlat]; exact ih

section
variable {H : Type} {enc : TypeId × Value → H} {P : Program} {W : World} {r : Reach} {b0 : Nat}
theorem qp_cells {t : TypeId} {g0 g1 g2 g3 : Field} (ht : P.underlying t = some (.struct #[g0, g1, g2, g3])) (e0 : g0.offset = 0 ∧ g1.offset = 1 ∧ g2.offset = 2 ∧ g3.offset = 3)
    (h0 : P.underlying g0.type = some (.int .u8)) (h1 : P.underlying g1.type = some (.int .i64)) (h2 : P.underlying g2.type = some (.int .u8)) (h4 : P.underlying g3.type = some (.int .i64))
    (hc : P.cellsOf g0.type = 1 ∧ P.cellsOf g1.type = 1 ∧ P.cellsOf g2.type = 1 ∧ P.cellsOf g3.type = 1) (h3 : P.cellsOf t = 4)
    {w : World} {n : Nat} {cs : List Value} {x : DataW H × List MemPlace} (h : DataW.trod enc P w 0 (fun _ => true) true n t cs = some x) :
    ∃ a : Qp, ((∀ m ∈ x.1.weights P t, m ≤ reachBytes) → a.ok) ∧ cs = a.cells := by
  obtain ⟨xs, m, _, hxs, hlen, hxl, hg⟩ := DataW.trod_struct ht h
  rw [h3] at hlen
  match cs, hlen with
  | [c0, c1, c2, c3], _ =>
    have q0 := hg 0 g0 rfl
    have q1 := hg 1 g1 rfl
    have q2 := hg 2 g2 rfl
    have q3 := hg 3 g3 rfl
    rw [e0.1, hc.1] at q0
    rw [e0.2.1, hc.2.1] at q1
    rw [e0.2.2.1, hc.2.2.1] at q2
    rw [e0.2.2.2, hc.2.2.2] at q3
    simp only [List.drop_zero, List.drop_succ_cons, List.take_succ_cons, List.take_zero] at q0 q1 q2 q3
    have hx : ∀ (i : Nat) (f : Field), (#[g0, g1, g2, g3] : Array Field)[i]? = some f → ∃ y, xs[i]? = some y := by
      intro i f hf
      have hi : i < 4 := (Array.getElem?_eq_some_iff.1 hf).1
      have hl : xs.length = 4 := hxl
      exact ⟨_, List.getElem?_eq_getElem (by omega)⟩
    obtain ⟨y0, hy0⟩ := hx 0 g0 rfl
    obtain ⟨y1, hy1⟩ := hx 1 g1 rfl
    obtain ⟨y2, hy2⟩ := hx 2 g2 rfl
    obtain ⟨y3, hy3⟩ := hx 3 g3 rfl
    obtain ⟨a0, r0, s0, w0⟩ := DataW.trod_int h0 (q0.trans hy0)
    obtain ⟨a1, r1, s1, w1⟩ := DataW.trod_int h1 (q1.trans hy1)
    obtain ⟨a2, r2, s2, w2⟩ := DataW.trod_int h2 (q2.trans hy2)
    obtain ⟨a3, r3, s3, w3⟩ := DataW.trod_int h4 (q3.trans hy3)
    simp only [List.cons.injEq, and_true] at r0 r1 r2 r3
    subst r0; subst r1; subst r2; subst r3
    obtain ⟨k, rfl⟩ := u8_of (wf_u8 w0)
    have b1 := wf_i64 w1
    obtain ⟨c, rfl⟩ := u8_of (wf_u8 w2)
    have b3 := wf_i64 w3
    exact ⟨⟨k, a1, c, a3⟩, fun _ => ⟨b1, b3⟩, rfl⟩

/-- The slice reads as the steps ts. -/
def SlQ (w : World) (S : Nat → Prop) (A : Option Addr) (n : Nat) (ts : List Qp) : Prop := Sl w S 4 A n (ts.flatMap Qp.cells)

theorem qp_at (ts : List Qp) : ∀ (i j : Nat) (a : Qp), ts[i]? = some a → j < 4 → (ts.flatMap Qp.cells)[i * 4 + j]? = a.cells[j]? := by
  induction ts with
  | nil => intro i j a h; simp at h
  | cons b r ih =>
    intro i j a h hj
    rw [List.flatMap_cons]
    cases i with
    | zero =>
      simp only [List.getElem?_cons_zero, Option.some.injEq] at h
      subst h
      rw [Nat.zero_mul, Nat.zero_add, List.getElem?_append_left (by simp [Qp.cells]; omega)]
    | succ i =>
      rw [List.getElem?_cons_succ] at h
      rw [List.getElem?_append_right (by simp [Qp.cells]; omega)]
      rw [← ih i j a h hj]
      congr 1
      simp [Qp.cells]
      omega
theorem qp_len (ts : List Qp) : (ts.flatMap Qp.cells).length = ts.length * 4 := by
  induction ts with
  | nil => rfl
  | cons a r ih => rw [List.flatMap_cons, List.length_append, ih]; simp [Qp.cells]; omega
theorem qp_of (f : Nat → Qp) (n j : Nat) (u : Value) (h : (((List.range n).map f).flatMap Qp.cells)[j]? = some u) : j / 4 < n ∧ (f (j / 4)).cells[j % 4]? = some u := by
  have hl : j < n * 4 := by
    have := (List.getElem?_eq_some_iff.1 h).1
    rw [qp_len] at this
    simpa using this
  have hj : j / 4 < n := by omega
  refine ⟨hj, ?_⟩
  rw [← h, show j = j / 4 * 4 + j % 4 by omega]
  rw [qp_at _ (j / 4) (j % 4) (f (j / 4)) (by simp [hj]) (by omega)]
  rw [show (j / 4 * 4 + j % 4) / 4 = j / 4 by omega, show (j / 4 * 4 + j % 4) % 4 = j % 4 by omega]

theorem open_qps {t e : TypeId} {g0 g1 g2 g3 : Field} (hsl : P.underlying t = some (.slice e)) (ht : P.underlying e = some (.struct #[g0, g1, g2, g3])) (e0 : g0.offset = 0 ∧ g1.offset = 1 ∧ g2.offset = 2 ∧ g3.offset = 3)
    (h0 : P.underlying g0.type = some (.int .u8)) (h1 : P.underlying g1.type = some (.int .i64)) (h2 : P.underlying g2.type = some (.int .u8)) (h4 : P.underlying g3.type = some (.int .i64))
    (hc : P.cellsOf g0.type = 1 ∧ P.cellsOf g1.type = 1 ∧ P.cellsOf g2.type = 1 ∧ P.cellsOf g3.type = 1) (h3 : P.cellsOf e = 4)
    {v : Value} {d : DataW H} {p : List MemPlace} (hv : Value.okWide P W r b0 t v) (h : DataW.Trod enc P W 0 (fun _ => true) true t v d p) (hz : ∀ m ∈ d.weights P t, m ≤ reachBytes) :
    ∃ (A : Option Addr) (n c : Nat) (ts : List Qp), v = .slice A n c ∧ SlQ W Any A n ts ∧ (∀ a ∈ ts, a.ok) ∧ n ≤ c ∧ c ≤ maxLen := by
  obtain ⟨A, n, c, rfl⟩ := okWide_slice hsl hv
  obtain ⟨fuel, hf⟩ := h
  rcases Go.Deep.open_slice hsl hf with ⟨hcs, _⟩ | ⟨a, len, cap, m, q, D, Pl, hcs, hb, hl, hm, hmm, hx, hi⟩
  · simp [Value.cells] at hcs
    obtain ⟨rfl, rfl, rfl⟩ := hcs
    exact ⟨none, 0, 0, [], rfl, Sl.nil_, by simp, Nat.le_refl _, Nat.zero_le _⟩
  · simp [Value.cells] at hcs
    obtain ⟨rfl, rfl, rfl⟩ := hcs
    have hmc : m = c := by simpa using hmm
    subst hmc
    have hx1 : d = .slice ((List.range n).map D) ((List.range (m - n)).map fun j => D (n + j)) := by
      injection hx
    have hth : ∀ i, ∃ b : Qp, (i < n → b.ok) ∧ (i < m → W.cells? 0 (a.add (i * 4)) 4 = some b.cells) := by
      intro i
      by_cases him : i < m
      · obtain ⟨cs', hcl, htr⟩ := hi i him
        rw [h3] at hcl
        obtain ⟨b, hbk, rfl⟩ := qp_cells ht e0 h0 h1 h2 h4 hc h3 htr
        refine ⟨b, fun hin => hbk fun q hq => hz q ?_, fun _ => hcl⟩
        rw [hx1]
        simp only [DataW.weights, hsl]
        exact List.mem_cons_of_mem _ (List.mem_append_left _ (mem_weightsAll (List.mem_map.2 ⟨i, List.mem_range.2 hin, rfl⟩) hq))
      · exact ⟨⟨0, 0, 0, 0⟩, fun _ => ⟨by decide, by decide⟩, fun h => absurd h him⟩
    let f : Nat → Qp := fun i => Classical.choose (hth i)
    have hf1 : ∀ i, i < n → (f i).ok := fun i => (Classical.choose_spec (hth i)).1
    have hf2 : ∀ i, i < m → W.cells? 0 (a.add (i * 4)) 4 = some (f i).cells := fun i => (Classical.choose_spec (hth i)).2
    have key : ∀ j u, (((List.range n).map f).flatMap Qp.cells)[j]? = some u → W.cell? (a.add j) = some u := by
      intro j u hu
      obtain ⟨hj, hcell⟩ := qp_of f n j u hu
      obtain ⟨_, hcl, hat⟩ := World.cells?_some (hf2 (j / 4) (by omega))
      have := hat (j % 4) (by omega)
      rw [add_add, show j / 4 * 4 + j % 4 = j by omega] at this
      exact this.trans hcell
    refine ⟨some a, n, m, (List.range n).map f, rfl, ⟨by rw [qp_len]; simp, fun hn => ⟨a, rfl, trivial, ?_, key⟩⟩, ?_, hl, hm⟩
    · have := key 0 (.int .u8 ((f 0).k.toNat : Nat)) (by
        have := qp_at ((List.range n).map f) 0 0 (f 0) (by simp [hn]) (by omega)
        exact this)
      have := cell_lt this
      rwa [add_block] at this
    · intro b hb
      obtain ⟨i, hir, rfl⟩ := List.mem_map.1 hb
      exact hf1 i (List.mem_range.1 hir)
end
end Go.Proofs.Yteiiekfccecoiaa
