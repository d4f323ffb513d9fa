/- Layer 4: JournalPlays, as it is handed in. -/
import Derived.Test.YthfgjedcmhllfaaJx
namespace Go.Proofs.Ythfgjedcmhllfaa
open Go.Am
set_option linter.unusedVariables false
theorem ro_cap {L : RL} {v : Value} {n : Nat} {cs : List Value} (h : RO 1 L v n cs) : ∀ r off cap, v = .slice (some ⟨r, off, none⟩) n cap → cap < openCap ∧ n ≤ cap := by
  intro r off cap e
  rcases h with ⟨h0, _⟩ | ⟨r', c', h0, h1, h2, _⟩
  · rw [h0] at e; cases e
  · rw [h0] at e; cases e; exact ⟨h2, h1⟩
theorem plays_ro {L : RL} {n : Int} {vl : Value} {nl : Nat} {ms : List Opm} (hl : RO 5 L vl nl (ms.flatMap Opm.cells)) (hnl : nl ≤ 9223372036854775807)
    (hms : ∀ m ∈ ms, RO 1 L m.v m.zs.length (m.zs.map fun z => .int .i64 z) ∧ m.zs.length ≤ reachBytes ∧ (-9223372036854775808 ≤ m.N ∧ m.N ≤ 9223372036854775807)) :
    CS Try.prog 5 [.int .i64 n, vl] L fun v _ => v = .bool true :=
  plays_ct hl.sv hnl fun m hm => ⟨(hms m hm).1.sv, Nat.le_trans (hms m hm).2.1 (by decide), (hms m hm).2.2, ro_cap (hms m hm).1⟩
end Go.Proofs.Ythfgjedcmhllfaa
