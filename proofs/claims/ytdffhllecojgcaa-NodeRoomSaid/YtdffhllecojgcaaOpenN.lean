/- A node that is handed in: a truth value, two lists of texts, a list of numbers. -/
import Derived.Test.YtdffhllecojgcaaOpenT
namespace Go.Proofs.Ytdffhllecojgcaa
open Go.ChangeShapes Go.WideShapes Go.ChangeAt Go.RowKit
set_option linter.unusedVariables false

section
variable {H : Type} {enc : TypeId × Value → H} {P : Program} {W : World} {r : Reach} {b0 : Nat}
/-- A part of an argument, as it is handed in. -/
def Part (enc : TypeId × Value → H) (P : Program) (W : World) (r : Reach) (b0 : Nat) (t : TypeId) (v : Value) : Prop :=
  Value.okWide P W r b0 t v ∧ ∃ d p, DataW.Trod enc P W 0 (fun _ => true) true t v d p ∧ ∀ m ∈ d.weights P t, m ≤ reachBytes
theorem part_slice {t e : TypeId} {n : Nat} {c : Value} {x : DataW H × List MemPlace} (h1 : P.underlying t = some (.slice e)) (hok : Cell.okWide P W r b0 t c) (h : DataW.trod enc P W 0 (fun _ => true) true n t [c] = some x) (hz : ∀ m ∈ x.1.weights P t, m ≤ reachBytes) : Part enc P W r b0 t c := by
  have hw : Value.okWide P W r b0 t c := by
    unfold Value.okWide
    rw [h1]
    exact hok
  obtain ⟨A, l, cp, rfl⟩ := okWide_slice h1 hw
  exact ⟨hw, x.1, x.2, ⟨n, by simpa [Value.cells] using h⟩, hz⟩
theorem open_node {t e1 e2 e3 : TypeId} {g0 g1 g2 g3 : Field} (ht : P.underlying t = some (.struct #[g0, g1, g2, g3])) (e0 : g0.offset = 0 ∧ g1.offset = 1 ∧ g2.offset = 2 ∧ g3.offset = 3)
    (hts : P.cellTypes P.depth t = some [g0.type, g1.type, g2.type, g3.type])
    (h0 : P.underlying g0.type = some .bool) (h1 : P.underlying g1.type = some (.slice e1)) (h2 : P.underlying g2.type = some (.slice e2)) (h3 : P.underlying g3.type = some (.slice e3))
    (hc : P.cellsOf g0.type = 1 ∧ P.cellsOf g1.type = 1 ∧ P.cellsOf g2.type = 1 ∧ P.cellsOf g3.type = 1) (h4 : P.cellsOf t = 4)
    {v : Value} {d : DataW H} {p : List MemPlace} (hv : Value.okWide P W r b0 t v) (h : DataW.Trod enc P W 0 (fun _ => true) true t v d p) (hz : ∀ m ∈ d.weights P t, m ≤ reachBytes) :
    ∃ (lf : Bool) (v1 v2 v3 : Value), v = .agg #[.bool lf, v1, v2, v3] ∧ Part enc P W r b0 g1.type v1 ∧ Part enc P W r b0 g2.type v2 ∧ Part enc P W r b0 g3.type v3 := by
  simp only [Value.okWide, ht] at hv
  obtain ⟨cs, rfl, hsz, ts, hts', _, hrow⟩ := hv
  obtain rfl : [g0.type, g1.type, g2.type, g3.type] = ts := by rw [hts] at hts'; exact Option.some.inj hts'
  obtain ⟨fuel, hf⟩ := h
  obtain ⟨xs, m, _, hxs, hlen, hxl, hg⟩ := DataW.trod_struct ht hf
  simp only [Value.cells] at hlen hg
  rw [h4] at hsz
  obtain ⟨l⟩ := cs
  match l, hsz with
  | [c0, c1, c2, c3], _ =>
    have q0 := hg 0 g0 rfl
    have q1 := hg 1 g1 rfl
    have q2 := hg 2 g2 rfl
    have q3 := hg 3 g3 rfl
    rw [e0.1, hc.1] at q0
    rw [e0.2.1, hc.2.1] at q1
    rw [e0.2.2.1, hc.2.2.1] at q2
    rw [e0.2.2.2, hc.2.2.2] at q3
    simp only [List.drop_zero, List.drop_succ_cons, List.take_succ_cons, List.take_zero] at q0 q1 q2 q3
    have hx : ∀ (i : Nat) (f : Field), (#[g0, g1, g2, g3] : Array Field)[i]? = some f → ∃ y, xs[i]? = some y := by
      intro i f hf
      have hi : i < 4 := (Array.getElem?_eq_some_iff.1 hf).1
      have hl : xs.length = 4 := hxl
      exact ⟨_, List.getElem?_eq_getElem (by omega)⟩
    obtain ⟨y0, hy0⟩ := hx 0 g0 rfl
    obtain ⟨y1, hy1⟩ := hx 1 g1 rfl
    obtain ⟨y2, hy2⟩ := hx 2 g2 rfl
    obtain ⟨y3, hy3⟩ := hx 3 g3 rfl
    obtain ⟨a0, r0, s0⟩ := DataW.trod_bool h0 (q0.trans hy0)
    simp only [List.cons.injEq, and_true] at r0
    subst r0
    have e : xs = [y0, y1, y2, y3] := by
      apply List.ext_getElem?
      intro i
      match i with
      | 0 => exact hy0
      | 1 => exact hy1
      | 2 => exact hy2
      | 3 => exact hy3
      | i + 4 =>
        have hl : xs.length = 4 := hxl
        rw [List.getElem?_eq_none (by omega)]
        rfl
    have hx1 : d = .agg (xs.map (·.1)) := congrArg Prod.fst hxs
    rw [hx1, e] at hz
    obtain ⟨u1, hu1, k1⟩ := hrow 1 c1 rfl
    obtain ⟨u2, hu2, k2⟩ := hrow 2 c2 rfl
    obtain ⟨u3, hu3, k3⟩ := hrow 3 c3 rfl
    simp at hu1 hu2 hu3
    subst hu1; subst hu2; subst hu3
    exact ⟨a0, c1, c2, c3, rfl, part_slice h1 k1 (q1.trans hy1) fun m hm => hz m (by simp [DataW.weights, DataW.weightsEach, ht, hm]),
      part_slice h2 k2 (q2.trans hy2) fun m hm => hz m (by simp [DataW.weights, DataW.weightsEach, ht, hm]), part_slice h3 k3 (q3.trans hy3) fun m hm => hz m (by simp [DataW.weights, DataW.weightsEach, ht, hm])⟩
theorem part_texts {t e : TypeId} (hsl : P.underlying t = some (.slice e)) (he : P.underlying e = some .string) (hC : P.cellsOf e = 1) (hB : P.bytesOf e = 16) {v : Value} (h : Part enc P W r b0 t v) :
    ∃ (A : Option Addr) (n c : Nat) (ts : List (List UInt8)), v = .slice A n c ∧ Sl W Any 1 A n (ts.map textV) ∧ (∀ s ∈ ts, s.length ≤ 140737488351232) ∧ n ≤ c ∧ c ≤ reachBytes := by
  obtain ⟨hw, d, p, ht, hz⟩ := h
  exact open_texts hsl he hC hB hw ht hz
theorem part_ints {t e : TypeId} (hsl : P.underlying t = some (.slice e)) (he : P.underlying e = some (.int .i64)) (hC : P.cellsOf e = 1) (hB : P.bytesOf e = 8) {v : Value} (h : Part enc P W r b0 t v) :
    ∃ (A : Option Addr) (n c : Nat) (zs : List Int), v = .slice A n c ∧ Sl W Any 1 A n (zs.map fun z => .int .i64 z) ∧ (∀ z ∈ zs, -9223372036854775808 ≤ z ∧ z ≤ 9223372036854775807) ∧ n ≤ c ∧ c ≤ reachBytes := by
  obtain ⟨hw, d, p, ht, hz⟩ := h
  exact open_numbers hsl he hC hB hw ht hz
end
end Go.Proofs.Ytdffhllecojgcaa
