/- Layer 4: JournalPlays: small things. -/
import Derived.Test.YthfgjedcmhllfaaJu
namespace Go.Am
theorem Sub.up3 {Z W F : RL} {a b c : Nat × ARow} : Sub (a :: b :: c :: (Z ++ (W ++ F))) (Z ++ (W ++ (a :: b :: c :: F))) := ⟨[], by
  have := List.perm_append_comm_assoc (Z ++ W) [a, b, c] F
  simpa [List.append_assoc] using this⟩
end Go.Am
namespace Go.Proofs.Ythfgjedcmhllfaa
open Go.Am
set_option linter.unusedVariables false
set_option maxRecDepth 20000

theorem RowsOf.reads {Zg F : RL} {gs : List Gw} (h : RowsOf Zg gs) : Reads (Zg ++ F) gs := fun g hg => by
  obtain ⟨k, hk, hkg⟩ := List.getElem_of_mem hg
  obtain ⟨ra, c, h1, h2, h3, h4⟩ := h.2 k g (by rw [List.getElem?_eq_getElem hk, hkg])
  refine ⟨g.d.length, .inr ⟨ra, 0, 256, _, _, h1, List.mem_append_left _ (List.mem_of_getElem? h4), rfl, ?_⟩⟩
  rw [cut_r h3, ← h2]

/-- What the document's Check answers. -/
def ckOf (n : Nat) (ps : List (Int × List UInt8)) (c : Int) : Prop := (120 < ps.length ∧ c = 3) ∨ (ps.length ≤ 120 ∧ Good n ps ∧ c = 0) ∨ (ps.length ≤ 120 ∧ ¬ Good n ps ∧ c = 1)
theorem bCheck_any {L : RL} {r n0 : Nat} {f : F04} {l : Value} {n : Nat} {gs : List Gw} (hx : BlkAt L r n0 f) (hn0 : 512 ≤ n0) (hl : SV 2 L l n (gcells gs)) (hd : Reads L gs) :
    CS Try.prog 34 [ptr r, l] L fun v L' => ∃ c, v = .int .i64 c ∧ ckOf n0 (bd gs) c ∧ L' = L := by
  have hlen := gs_len hl
  have hbl : (bd gs).length = n := by rw [bd_len]; exact hlen
  by_cases hn : 120 < n
  · exact (bCheck_full hl hn).mono fun v L' h => ⟨3, h.1, .inl ⟨by omega, rfl⟩, h.2⟩
  · refine (bCheck_ct hx hn0 hl hd (by omega)).mono fun v L' h => ?_
    rcases h.1 with ⟨h1, h2⟩ | ⟨h1, h2⟩
    · exact ⟨0, h1, .inr (.inl ⟨by omega, h2, rfl⟩), h.2⟩
    · exact ⟨1, h1, .inr (.inr ⟨by omega, h2, rfl⟩), h.2⟩

/-- The law's state, at a step's head. -/
def PI (n : Nat) (vl vn : Value) (L0 : RL) (nam : List Int) (i w : Nat) (a : Slots) (L' : RL) : Prop :=
  ∃ rj rdj rd rb s F rx ry f g, L' = jq rj rdj rd rb s F ∧ (∀ p, p ∈ L0 → p ∈ F) ∧ JS F rdj rd s ∧ s.n = n ∧ s.wr ≤ 400 * w ∧ (StA s f ∨ StD s f g nam) ∧ BlkAt F rx n f ∧ BlkAt F ry n g ∧
    a = [.chan none, vl, .chan none, .chan none, .bool false, ptr rd, .chan none, .chan none, .chan none, .chan none, .chan none, vn, .chan none, ptr rj, ptr rx, ptr ry, .int .i64 (i : Nat), .chan none, .chan none, .chan none, .chan none, .chan none, .chan none, .chan none, .chan none, .chan none, .chan none, .chan none, .chan none, .chan none, .chan none, .chan none, .chan none, .chan none, .chan none, .chan none, .chan none, .chan none, .chan none, .chan none, .chan none, .chan none, .chan none, .chan none, .chan none, .chan none, .chan none, .chan none, .chan none, .chan none, .chan none, .chan none, .chan none, .chan none, .chan none, .chan none, .chan none, .chan none, .chan none, .chan none, .chan none, .chan none, .chan none, .chan none, .chan none, .chan none, .chan none, .chan none, .chan none, .chan none, .chan none, .chan none, .chan none, .chan none, .chan none, .chan none, .chan none, .chan none, .chan none, .chan none, .chan none, .chan none, .chan none, .chan none, .chan none, .chan none, .chan none, .chan none, .chan none, .chan none, .chan none, .chan none, .chan none, .chan none, .chan none, .chan none, .chan none, .chan none, .chan none, .chan none, .chan none, .chan none, .chan none, .chan none, .chan none, .chan none, .chan none, .chan none, .chan none, .chan none, .chan none, .chan none, .chan none, .chan none, .chan none, .chan none, .chan none, .chan none, .chan none, .chan none, .chan none, .chan none, .chan none, .chan none, .chan none, .chan none, .chan none, .chan none, .chan none, .chan none, .chan none, .chan none, .chan none, .chan none, .chan none, .chan none, .chan none, .chan none, .chan none, .chan none, .chan none, .chan none, .chan none, .chan none, .chan none, .chan none, .chan none, .chan none, .chan none, .chan none, .chan none, .chan none, .chan none, .chan none, .chan none, .chan none, .chan none, .chan none, .chan none, .chan none, .chan none, .chan none, .chan none, .chan none, .chan none, .chan none, .chan none, .chan none, .chan none, .chan none, .chan none, .chan none, .chan none, .chan none, .chan none, .chan none, .chan none, .chan none, .chan none, .chan none, .chan none, .chan none, .chan none, .chan none, .chan none, .chan none, .chan none, .chan none, .chan none, .chan none, .chan none, .chan none, .chan none, .chan none, .chan none, .chan none, .chan none, .chan none, .chan none, .chan none, .chan none, .chan none, .chan none, .chan none, .chan none, .chan none, .chan none, .chan none, .chan none, .chan none, .chan none, .chan none, .chan none, .chan none, .chan none, .chan none, .chan none, .chan none, .chan none, .chan none, .chan none, .chan none, .chan none, .chan none, .chan none, .chan none, .chan none, .chan none, .chan none, .chan none, .chan none, .chan none, .chan none, .chan none, .chan none, .chan none, .chan none, .chan none, .chan none, .chan none, .chan none, .chan none, .chan none, .chan none, .chan none, .chan none, .chan none, .chan none, .chan none, .chan none, .chan none, .chan none, .chan none, .chan none, .chan none, .chan none, .chan none, .chan none, .chan none, .chan none, .chan none, .chan none, .chan none, .chan none, .chan none, .chan none, .chan none, .chan none, .chan none, .chan none, .chan none, .chan none, .chan none, .chan none, .chan none, .chan none, .chan none, .chan none, .chan none, .chan none, .chan none, .chan none, .chan none, .chan none, .chan none, .chan none, .chan none, .chan none, .chan none, .chan none, .chan none, .chan none, .chan none, .chan none, .chan none, .chan none, .chan none, .chan none, .chan none, .chan none, .chan none, .chan none, .chan none, .chan none, .chan none, .chan none, .chan none, .chan none, .chan none, .chan none, .chan none, .chan none, .chan none, .chan none, .chan none, .chan none, .chan none, .chan none, .chan none, .chan none, .chan none, .chan none, .chan none, .chan none, .chan none, .chan none, .chan none, .chan none, .chan none, .chan none, .chan none, .chan none, .chan none, .chan none, .chan none, .chan none, .chan none, .chan none, .chan none, .chan none, .chan none, .chan none, .chan none, .chan none, .chan none, .chan none, .chan none, .chan none, .chan none, .chan none, .chan none, .chan none, .chan none, .chan none, .chan none, .chan none, .chan none, .chan none, .chan none, .chan none, .chan none, .chan none, .chan none, .chan none, .chan none, .chan none, .chan none, .chan none, .chan none, .chan none, .chan none, .chan none, .chan none, .chan none, .chan none, .chan none, .chan none, .chan none, .chan none, .chan none, .chan none, .chan none, .chan none, .chan none, .chan none, .chan none, .chan none, .chan none, .chan none, .chan none, .chan none, .chan none, .chan none, .chan none, .chan none, .chan none, .chan none, .chan none, .chan none, .chan none, .chan none, .chan none, .chan none, .chan none]
theorem reads_q {F : RL} {rj rdj rd rb rx : Nat} {s : Dk} {f : F04} {vn : Value} {nn : Nat} {zs : List Int} (hj : JS F rdj rd s) (hs : s.ok) (hd : s.dead = false) (hx : BlkAt F rx s.n f) (hv : SV 1 F vn nn (zs.map fun z => .int .i64 z)) (hnn : nn ≤ 1000000) :
    CS Try.prog 39 [ptr rj, ptr rx, vn] (jq rj rdj rd rb s F) fun v L' => ∃ b, v = .bool b ∧ (b = true ↔ Agree s.D s.n f zs) ∧ L' = jq rj rdj rd rb s F := by
  have := hj.live hd
  subst this
  exact reads_ct hs hd hx hv hnn
end Go.Proofs.Ythfgjedcmhllfaa
