/- Layer 8: what BlobApart comes to: lists of which one is taken out. -/
import Derived.Test.YteiiekfccecoiaaBt
namespace Go.Am
section
variable {P : Program} {o : Oper} {a : Slots} {L : RL}
def VL (e : TypeId) (sz r : Nat) (X : RL) (v : Value) (m : Nat) (new : List Value) : Prop :=
  (m = 0 ∧ new = [] ∧ X = [] ∧ v = .slice (some ⟨r, 0, none⟩) 0 0) ∨ ∃ r', X = [(r', .cells e new)] ∧ v = .slice (some ⟨r', 0, none⟩) m openCap ∧ new.length = m * sz
theorem SV.void {sz r : Nat} {row : ARow} {cs : List Value} (hm : (r, row) ∈ L) (hc : rdRow row = some cs) : SV sz L (.slice (some ⟨r, 0, none⟩) 0 0) 0 [] :=
  .inr ⟨r, 0, 0, row, cs, rfl, hm, hc, by rw [Nat.zero_mul]; exact cut_zero⟩
theorem VL.sv {e : TypeId} {sz r m : Nat} {X : RL} {v : Value} {new : List Value} {row : ARow} {cs : List Value} (h : VL e sz r X v m new) (hX : ∀ p, p ∈ X → p ∈ L) (hm : (r, row) ∈ L) (hc : rdRow row = some cs) : SV sz L v m new := by
  rcases h with ⟨rfl, rfl, rfl, rfl⟩ | ⟨r', rfl, rfl, hl⟩
  · exact SV.void hm hc
  · exact SV.row (hX _ (List.mem_cons_self ..)) hl
theorem e_appVoid {c : Call} {e : TypeId} {sz bts m r : Nat} {x : Value} {new : List Value} (hv0 : SV sz L (.slice (some ⟨r, 0, none⟩) 0 0) 0 []) (hs : SV sz L x m new) (hone : allOne new = true) (ho : o.op = .call c) (hT : appT P c = some (e, sz, bts)) (ha : evs a c.args.toList = some [.slice (some ⟨r, 0, none⟩) 0 0, x])
    (hsm : m * bts ≤ 1000000000000) (hsm2 : m ≤ 1000000000000) :
    ∀ h, Has h L → ∃ v h₁ L₁, opB P a o h = some (.val v h₁) ∧ Has h₁ L₁ ∧ ∃ X, L₁ = X ++ L ∧ VL e sz r X v m new := by
  intro h H
  have hn1 := hs.lenB
  have hf : firstB sz m x h = some new := hs.first H
  have hf0 : firstB sz 0 (.slice (some ⟨r, 0, none⟩) 0 0) h = some [] := hv0.first H
  have hone' : (allOne new && (notText x || Nat.beq sz 1)) = true := by rw [hone, hs.notText]; rfl
  unfold appT at hT
  split at hT
  case h_2 => cases hT
  rename_i hcal
  split at hT
  case h_2 => cases hT
  rename_i st xt hst hxt
  split at hT
  case h_2 => cases hT
  rename_i e' xd hu1 hu2
  have hxd : (∀ k, xd = .int k → False) ∧ ∃ i, P.info? e' = some i ∧ zeroFits P e' = true ∧ e' = e ∧ i.size = sz ∧ i.bytes = bts := by
    split at hT
    · cases hT
    · rename_i hno
      split at hT
      case h_2 => cases hT
      rename_i i hi hz
      simp at hT
      obtain ⟨rfl, rfl, rfl⟩ := hT
      exact ⟨fun k hk => hno k hk, i, hi, hz, rfl, rfl, rfl⟩
  obtain ⟨hno, i, hi, hz, rfl, rfl, rfl⟩ := hxd
  have hs' : sizeB P e' = some i.size := by unfold sizeB; rw [hi]
  rcases Nat.eq_zero_or_pos m with h0 | hpos
  · subst h0
    have hnew : new = [] := List.eq_nil_of_length_eq_zero (by have := hs.len; omega)
    subst hnew
    refine ⟨.slice (some ⟨r, 0, none⟩) 0 0, h, L, ?_, H, [], rfl, .inl ⟨rfl, rfl, rfl, rfl⟩⟩
    simp only [opB, ho, ha, callOpB, hcal, appendB, hst, hxt, hu1, hu2]
    cases xd <;> first | exact (hno _ rfl).elim | skip
    all_goals
      simp only [hi, hn1, hf, hone']
      rfl
  · obtain ⟨h₁, e₁⟩ := h.new_some (.cells e' new)
    refine ⟨.slice (some ⟨h.next, 0, none⟩) m openCap, h₁, _, ?_, H.new e₁, [(h.next, .cells e' new)], rfl, .inr ⟨_, rfl, rfl, hs.len⟩⟩
    have b2 : Nat.ble m 1000000000000 = true := Nat.ble_eq_true_of_le hsm2
    have hgrow : growB P h e' (0 + m) [] new = some (.slice (some ⟨h.next, 0, none⟩) m openCap, h₁) := by
      simp only [growB, join_of, hz, Nat.zero_add, b2, Bool.and_self, newCells, hs', List.nil_append, e₁]
    simp only [opB, ho, ha, callOpB, hcal, appendB, hst, hxt, hu1, hu2]
    cases xd <;> first | exact (hno _ rfl).elim | skip
    all_goals
      simp only [hi, hn1, hf, hone']
      have hc : Nat.beq 0 openCap = false := beq_false (by decide)
      have b0 : Nat.ble (0 + m) 0 = false := by
        cases hb : Nat.ble (0 + m) 0 with
        | false => rfl
        | true => have := of_ble hb; omega
      have b1 : smallB (0 + m + 0) i.bytes = true := by unfold smallB; exact Nat.ble_eq_true_of_le (by simpa using hsm)
      simp only [hc, b0, hf0, b1, hgrow, ret2]
end
section
variable {P : Program} {o : Oper} {a : Slots}
/-- A list that is nothing, or lies nowhere, or has a row of its own. -/
def HV (e : TypeId) (r0 : Nat) (v : Value) (n : Nat) (cs : List Value) (Y : RL) : Prop :=
  GV e 1 [] v n cs Y ∨ (n = 0 ∧ cs = [] ∧ Y = [] ∧ v = .slice (some ⟨r0, 0, none⟩) 0 0)
theorem HV.sv {e : TypeId} {r0 n : Nat} {v : Value} {cs cs0 : List Value} {Y L : RL} {row : ARow} (h : HV e r0 v n cs Y) (hY : ∀ p, p ∈ Y → p ∈ L) (hr : (r0, row) ∈ L) (hc : rdRow row = some cs0) : SV 1 L v n cs := by
  rcases h with h | ⟨rfl, rfl, rfl, rfl⟩
  · exact h.sv.mono hY
  · exact SV.void hr hc
theorem e_appendHV (X F : RL) {c : Call} {e : TypeId} {bts n m r0 : Nat} {Y : RL} {v x : Value} {row : ARow} {cs cs0 new : List Value} (g : HV e r0 v n cs Y) (hr : (r0, row) ∈ X ++ (Y ++ F)) (hc : rdRow row = some cs0) (hs : SV 1 (X ++ (Y ++ F)) x m new) (hone : allOne new = true) (ho : o.op = .call c) (hT : appT P c = some (e, 1, bts)) (ha : evs a c.args.toList = some [v, x])
    (hsm : (n + m) * bts ≤ 1000000000000) (hsm2 : n + m ≤ 1000000000000) :
    ∀ h, Has h (X ++ (Y ++ F)) → ∃ u h₁ L₁, opB P a o h = some (.val u h₁) ∧ Has h₁ L₁ ∧ ∃ Y', HV e r0 u (n + m) (cs ++ new) Y' ∧ L₁ = Y' ++ (X ++ F) := by
  intro h H
  rcases g with g | ⟨rfl, rfl, rfl, rfl⟩
  · obtain ⟨u, h₁, L₁, e1, H₁, Y', g', rfl⟩ := e_appendGA X F g hs hone ho hT ha hsm hsm2 h H
    exact ⟨u, h₁, _, e1, H₁, Y', .inl g', rfl⟩
  · obtain ⟨u, h₁, L₁, e1, H₁, X', rfl, hX⟩ := e_appVoid (SV.void hr hc) hs hone ho hT ha (by simpa using hsm) (by simpa using hsm2) h H
    refine ⟨u, h₁, _, e1, H₁, X', ?_, by simp⟩
    rcases hX with ⟨rfl, rfl, rfl, rfl⟩ | ⟨r', rfl, rfl, hl⟩
    · exact .inr ⟨rfl, rfl, rfl, rfl⟩
    · exact .inl (.inr ⟨r', by rw [Nat.zero_add], by simpa using hl, by simp⟩)
end
end Go.Am
namespace Go.Proofs.Yteiiekfccecoiaa
open Go.Am
set_option linter.unusedVariables false
set_option maxRecDepth 20000

/-- A value's id. -/
def vid (v : List Nat × List UInt8) : Nat := v.1[0]?.getD 0
theorem Val.vid {D : List UInt8} {base m : Nat} {v : List Nat × List UInt8} (h : Val D base m v.1 v.2) : v.1[0]? = some (Proofs.Yteiiekfccecoiaa.vid v) := by
  have := need_two v.2.length
  have := h.len
  unfold Proofs.Yteiiekfccecoiaa.vid
  rw [List.getElem?_eq_getElem (by omega)]; rfl
theorem int_one (l : List Nat) : allOne (ints l) = true := by
  unfold ints
  induction l with
  | nil => rfl
  | cons x l ih => rw [List.map_cons]; exact ih
end Go.Proofs.Yteiiekfccecoiaa
