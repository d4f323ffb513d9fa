/- A list of whole numbers that is handed in. -/
import Derived.Test.YtdacddkelagdnaaOpen
import Derived.Test.YtdacddkelagdnaaAmE
namespace Go.Proofs.Ytdacddkelagdnaa
open Go.ChangeShapes Go.WideShapes Go.ChangeAt Go.RowKit
set_option linter.unusedVariables false

theorem ints_allFlat : ∀ zs : List Int, Am.allFlat (zs.map fun z => .int .i64 z) = true
  | [] => rfl
  | z :: zs => by simp only [List.map_cons, Am.allFlat]; exact ints_allFlat zs

section
variable {H : Type} {enc : TypeId × Value → H} {P : Program} {W : World} {r : Reach} {b0 : Nat}
theorem open_numbers {t e : TypeId} {v : Value} {d : DataW H} {p : List MemPlace} (ht : P.underlying t = some (.slice e)) (he : P.underlying e = some (.int .i64)) (hC : P.cellsOf e = 1) (hB : P.bytesOf e = 8)
    (hv : Value.okWide P W r b0 t v) (h : DataW.Trod enc P W 0 (fun _ => true) true t v d p) (hw : ∀ m ∈ d.weights P t, m ≤ reachBytes) :
    ∃ (A : Option Addr) (n c : Nat) (zs : List Int), v = .slice A n c ∧ Sl W Any 1 A n (zs.map fun z => .int .i64 z) ∧ (∀ z ∈ zs, -9223372036854775808 ≤ z ∧ z ≤ 9223372036854775807) ∧ n ≤ c ∧ c ≤ reachBytes := by
  obtain ⟨A, n, c, rfl⟩ := okWide_slice ht hv
  obtain ⟨fuel, hf⟩ := h
  rcases open_ints ht he hC hf with ⟨hcs, _⟩ | ⟨a, l, cap, zs, hcs, _, hl, hm, hz, hx, hcell, hwz⟩
  · simp [Value.cells] at hcs
    obtain ⟨rfl, rfl, rfl⟩ := hcs
    exact ⟨none, 0, 0, [], rfl, Sl.nil_, fun z hz => (by cases hz), Nat.le_refl _, Nat.zero_le _⟩
  · simp [Value.cells] at hcs
    obtain ⟨rfl, rfl, rfl⟩ := hcs
    have hzc : zs.length = c := by simpa using hz
    refine ⟨some a, n, c, zs.take n, rfl, ⟨by simp; omega, fun hn => ⟨a, rfl, trivial, ?_, ?_⟩⟩, fun z hz => ?_, hl, ?_⟩
    · have := cell_lt (hcell 0 (by omega))
      rwa [add_block] at this
    · intro j u hu
      rw [List.getElem?_map, List.getElem?_take] at hu
      split at hu
      · rename_i hj
        have hjz : j < zs.length := by omega
        rw [List.getElem?_eq_getElem hjz] at hu
        simp only [Option.map_some, Option.some.injEq] at hu
        rw [hcell j hjz, ← hu]
        simp [hjz]
      · simp at hu
    · have := wf_i64 (hwz z (List.mem_of_mem_take hz))
      exact this
    · cases hx
      have := hw ((lits (H := H) .i64 (zs.take n)).length * 8 + (lits (H := H) .i64 (zs.drop n)).length * 8) (by simp [DataW.weights, ht, hB, Nat.add_mul])
      simp [lits] at this
      omega
end
end Go.Proofs.Ytdacddkelagdnaa
