/- A list of texts that is handed in. -/
import Derived.Test.YtdacddkelagdnaaOpenI
import Derived.ChangeArms
namespace Go.Proofs.Ytdacddkelagdnaa
open Go.ChangeShapes Go.WideShapes Go.ChangeAt Go.RowKit
set_option linter.unusedVariables false

abbrev textV (s : List UInt8) : Value := .string ⟨⟨s⟩⟩
theorem texts_flat : ∀ ts : List (List UInt8), Am.allFlat (ts.map textV) = true
  | [] => rfl
  | t :: r => by simp only [List.map_cons, Am.allFlat]; exact texts_flat r

section
variable {H : Type} {enc : TypeId × Value → H} {P : Program} {W : World} {r : Reach} {b0 : Nat}
theorem open_texts {t e : TypeId} (hsl : P.underlying t = some (.slice e)) (he : P.underlying e = some .string) (hC : P.cellsOf e = 1) (hB : P.bytesOf e = 16)
    {v : Value} {d : DataW H} {p : List MemPlace} (hv : Value.okWide P W r b0 t v) (h : DataW.Trod enc P W 0 (fun _ => true) true t v d p) (hz : ∀ m ∈ d.weights P t, m ≤ reachBytes) :
    ∃ (A : Option Addr) (n c : Nat) (ts : List (List UInt8)), v = .slice A n c ∧ Sl W Any 1 A n (ts.map textV) ∧ (∀ s ∈ ts, s.length ≤ 140737488351232) ∧ n ≤ c ∧ c ≤ reachBytes := by
  obtain ⟨A, n, c, rfl⟩ := okWide_slice hsl hv
  obtain ⟨fuel, hf⟩ := h
  rcases Go.Deep.open_slice hsl hf with ⟨hcs, _⟩ | ⟨a, len, cap, m, q, D, Pl, hcs, hb, hl, hm, hmm, hx, hi⟩
  · simp [Value.cells] at hcs
    obtain ⟨rfl, rfl, rfl⟩ := hcs
    exact ⟨none, 0, 0, [], rfl, Sl.nil_, by simp, Nat.le_refl _, Nat.zero_le _⟩
  · simp [Value.cells] at hcs
    obtain ⟨rfl, rfl, rfl⟩ := hcs
    have hmc : m = c := by simpa using hmm
    subst hmc
    have hx1 : d = .slice ((List.range n).map D) ((List.range (m - n)).map fun j => D (n + j)) := by
      injection hx
    have hth : ∀ i, ∃ b : List UInt8, (i < n → b.length ≤ 140737488351232) ∧ (i < m → W.cell? (a.add i) = some (textV b)) := by
      intro i
      by_cases him : i < m
      · obtain ⟨cs', hcl, htr⟩ := hi i him
        rw [hC] at hcl
        obtain ⟨s, rfl, hd, _⟩ := DataW.trod_string he htr
        refine ⟨s.data.toList, fun hin => ?_, fun _ => ?_⟩
        · have := hz s.data.toList.length (by
            rw [hx1]
            simp only [DataW.weights, hsl]
            refine List.mem_cons_of_mem _ (List.mem_append_left _ (mem_weightsAll (List.mem_map.2 ⟨i, List.mem_range.2 hin, rfl⟩) ?_))
            have hd' : D i = .lit (.string s.data.toList) := congrArg Prod.fst hd
            rw [hd']
            simp [DataW.weights])
          exact this
        · obtain ⟨_, _, hat⟩ := World.cells?_some hcl
          have := hat 0 (by omega)
          rw [Nat.mul_one] at this
          have e : (a.add i).add 0 = a.add i := by rw [add_add]; rfl
          rw [e] at this
          exact this
      · exact ⟨[], fun _ => Nat.zero_le _, fun h => absurd h him⟩
    let f : Nat → List UInt8 := fun i => Classical.choose (hth i)
    have hf1 : ∀ i, i < n → (f i).length ≤ 140737488351232 := fun i => (Classical.choose_spec (hth i)).1
    have hf2 : ∀ i, i < m → W.cell? (a.add i) = some (textV (f i)) := fun i => (Classical.choose_spec (hth i)).2
    have hcr : m ≤ reachBytes := by
      have := hz (((List.range n).map D).length * 16 + ((List.range (m - n)).map fun j => D (n + j)).length * 16) (by rw [hx1]; simp [DataW.weights, hsl, hB, Nat.add_mul])
      simp at this
      omega
    refine ⟨some a, n, m, (List.range n).map f, rfl, ⟨by simp, fun hn => ⟨a, rfl, trivial, ?_, ?_⟩⟩, ?_, hl, hcr⟩
    · have := cell_lt (hf2 0 (by omega))
      rwa [add_block] at this
    · intro j u hu
      rw [List.getElem?_map, List.getElem?_map] at hu
      by_cases hj : j < n
      · rw [List.getElem?_range hj] at hu
        simp only [Option.map_some, Option.some.injEq] at hu
        rw [hf2 j (by omega), hu]
      · rw [List.getElem?_eq_none (by simp; omega)] at hu
        simp at hu
    · intro b hb
      obtain ⟨i, hir, rfl⟩ := List.mem_map.1 hb
      exact hf1 i (List.mem_range.1 hir)
end
end Go.Proofs.Ytdacddkelagdnaa
