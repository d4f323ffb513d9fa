/- Layer 4: JournalPlays: what is appended to a list of its own; how many blocks there are. -/
import Derived.Test.YthfgjedcmhllfaaJt
import Derived.Test.YthfgjedcmhllfaaOpenO
namespace Go.Am
variable {P : Program} {o : Oper} {a : Slots} {L : RL}
/-- To a list that is full: it moves. -/
theorem e_appendF {c : Call} {e : TypeId} {sz bts n m r : Nat} {x : Value} {cs new : List Value} (hs : SV sz L x m new) (hm : 0 < m) (hrow : (r, .cells e cs) ∈ L) (hl : cs.length = n * sz) (hn : n < openCap) (hone : allOne new = true) (ho : o.op = .call c) (hT : appT P c = some (e, sz, bts)) (ha : evs a c.args.toList = some [.slice (some ⟨r, 0, none⟩) n n, x])
    (hsm : (n + m + n) * bts ≤ 1000000000000) (hsm2 : n + m ≤ 1000000000000) :
    ∀ h, Has h L → ∃ r' h₁, opB P a o h = some (.val (.slice (some ⟨r', 0, none⟩) (n + m) openCap) h₁) ∧ Has h₁ ((r', .cells e (cs ++ new)) :: L) := by
  intro h H
  have hn1 := hs.lenB
  have hf : firstB sz m x h = some new := hs.first H
  have hf0 : firstB sz n (.slice (some ⟨r, 0, none⟩) n n) h = some cs := (SV.row (sz := sz) (n := n) (cap := n) hrow hl).first H
  have hone' : (allOne new && (notText x || Nat.beq sz 1)) = true := by rw [hone, hs.notText]; rfl
  unfold appT at hT
  split at hT
  case h_2 => cases hT
  rename_i hcal
  split at hT
  case h_2 => cases hT
  rename_i st xt hst hxt
  split at hT
  case h_2 => cases hT
  rename_i e' xd hu1 hu2
  have hxd : (∀ k, xd = .int k → False) ∧ ∃ i, P.info? e' = some i ∧ zeroFits P e' = true ∧ e' = e ∧ i.size = sz ∧ i.bytes = bts := by
    split at hT
    · cases hT
    · rename_i hno
      split at hT
      case h_2 => cases hT
      rename_i i hi hz
      simp at hT
      obtain ⟨rfl, rfl, rfl⟩ := hT
      exact ⟨fun k hk => hno k hk, i, hi, hz, rfl, rfl, rfl⟩
  obtain ⟨hno, i, hi, hz, rfl, rfl, rfl⟩ := hxd
  obtain ⟨h₁, e₁⟩ := h.new_some (.cells e' (cs ++ new))
  refine ⟨h.next, h₁, ?_, H.new e₁⟩
  have hs' : sizeB P e' = some i.size := by unfold sizeB; rw [hi]
  have b2 : Nat.ble (n + m) 1000000000000 = true := Nat.ble_eq_true_of_le hsm2
  have hgrow : growB P h e' (n + m) cs new = some (.slice (some ⟨h.next, 0, none⟩) (n + m) openCap, h₁) := by
    simp only [growB, join_of, hz, b2, Bool.and_self, newCells, hs', e₁]
  simp only [opB, ho, ha, callOpB, hcal, appendB, hst, hxt, hu1, hu2]
  cases xd <;> first | exact (hno _ rfl).elim | skip
  all_goals
    simp only [hi, hn1, hf, hone']
    have hc : Nat.beq n openCap = false := beq_false (by omega)
    have b0 : Nat.ble (n + m) n = false := by
      cases hb : Nat.ble (n + m) n with
      | false => rfl
      | true => have := of_ble hb; omega
    have b1 : smallB (n + m + n) i.bytes = true := by unfold smallB; exact Nat.ble_eq_true_of_le hsm
    simp only [hc, b0, hf0, b1, hgrow, ret2]
/-- Nothing is appended to a list that is full. -/
theorem e_appendN {c : Call} {e : TypeId} {sz bts n r : Nat} {x : Value} {new : List Value} (hs : SV sz L x 0 new) (hn : n < openCap) (ho : o.op = .call c) (hT : appT P c = some (e, sz, bts)) (ha : evs a c.args.toList = some [.slice (some ⟨r, 0, none⟩) n n, x]) :
    ∀ h, Has h L → opB P a o h = some (.val (.slice (some ⟨r, 0, none⟩) n n) h) := by
  intro h H
  have hn1 := hs.lenB
  have hnew : new = [] := List.eq_nil_of_length_eq_zero (by have := hs.len; omega)
  subst hnew
  have hf : firstB sz 0 x h = some [] := hs.first H
  have hone' : (allOne [] && (notText x || Nat.beq sz 1)) = true := by rw [hs.notText]; rfl
  unfold appT at hT
  split at hT
  case h_2 => cases hT
  rename_i hcal
  split at hT
  case h_2 => cases hT
  rename_i st xt hst hxt
  split at hT
  case h_2 => cases hT
  rename_i e' xd hu1 hu2
  have hxd : (∀ k, xd = .int k → False) ∧ ∃ i, P.info? e' = some i ∧ zeroFits P e' = true ∧ e' = e ∧ i.size = sz ∧ i.bytes = bts := by
    split at hT
    · cases hT
    · rename_i hno
      split at hT
      case h_2 => cases hT
      rename_i i hi hz
      simp at hT
      obtain ⟨rfl, rfl, rfl⟩ := hT
      exact ⟨fun k hk => hno k hk, i, hi, hz, rfl, rfl, rfl⟩
  obtain ⟨hno, i, hi, hz, rfl, rfl, rfl⟩ := hxd
  simp only [opB, ho, ha, callOpB, hcal, appendB, hst, hxt, hu1, hu2]
  cases xd <;> first | exact (hno _ rfl).elim | skip
  all_goals
    simp only [hi, hn1, hf, hone']
    have hc : Nat.beq n openCap = false := beq_false (by omega)
    have b0 : Nat.ble (n + 0) n = true := Nat.ble_eq_true_of_le (by omega)
    simp only [hc, b0, beq_true rfl, ret2]
theorem setL_some : ∀ {L : RL} {i : Nat} {x : Nat × ARow}, i < L.length → setL L i x = some (L.set i x)
  | [], i, x, h => by simp at h
  | y :: L, 0, x, h => rfl
  | y :: L, i + 1, x, h => by
    simp only [setL]
    rw [setL_some (by simpa using h)]
    rfl
/-- A list in a row of its own, full or not. -/
def NV (e : TypeId) (sz : Nat) (v : Value) (n : Nat) (cs : List Value) (X : RL) : Prop :=
  ∃ r, (v = .slice (some ⟨r, 0, none⟩) n n ∨ v = .slice (some ⟨r, 0, none⟩) n openCap) ∧ cs.length = n * sz ∧ X = [(r, .cells e cs)]
theorem NV.sv {e : TypeId} {sz n : Nat} {v : Value} {cs : List Value} {X F : RL} (g : NV e sz v n cs X) : SV sz (X ++ F) v n cs := by
  obtain ⟨r, h, hl, rfl⟩ := g
  rcases h with rfl | rfl <;> exact SV.row (List.mem_cons_self ..) hl
end Go.Am
namespace Go.Proofs.Ythfgjedcmhllfaa
open Go.Am
set_option linter.unusedVariables false
set_option maxRecDepth 20000
/-- How many blocks the first steps name. -/
def cntL (ms : List Opm) (k : Nat) : Nat := ((ms.take k).map fun m => m.zs.length).sum
theorem cntL_succ {ms : List Opm} {k : Nat} {m : Opm} (h : ms[k]? = some m) : cntL ms (k + 1) = cntL ms k + m.zs.length := by
  unfold cntL
  rw [List.take_add_one, h]; simp
theorem cntL_le {ms : List Opm} {k B : Nat} (hB : ∀ m ∈ ms, m.zs.length ≤ B) : cntL ms k ≤ k * B := by
  induction k with
  | zero => simp [cntL]
  | succ k ih =>
    by_cases hk : k < ms.length
    · rw [cntL_succ (List.getElem?_eq_getElem hk)]
      have := hB _ (List.getElem_mem hk)
      have : (k + 1) * B = k * B + B := Nat.succ_mul k B
      omega
    · have : cntL ms (k + 1) = cntL ms k := by unfold cntL; rw [List.take_of_length_le (by omega), List.take_of_length_le (by omega)]
      have : (k + 1) * B = k * B + B := Nat.succ_mul k B
      omega
theorem cntL_mem {ms : List Opm} {m : Opm} (h : m ∈ ms) : m.zs.length ≤ cntL ms ms.length := by
  unfold cntL
  rw [List.take_length]
  induction ms with
  | nil => cases h
  | cons x xs ih =>
    simp only [List.map_cons, List.sum_cons]
    rcases List.mem_cons.1 h with rfl | h
    · omega
    · have := ih h; omega
/-- The blocks that the first steps name. -/
def namL (n : Nat) (ms : List Opm) (k : Nat) : List Int := [0, 1, 121, 122, (n : Int) - 1, n, -1] ++ (ms.take k).flatMap fun m => m.zs
theorem namL_succ {n : Nat} {ms : List Opm} {k : Nat} {m : Opm} (h : ms[k]? = some m) : namL n ms (k + 1) = namL n ms k ++ m.zs := by
  unfold namL
  rw [List.take_add_one, h]; simp
theorem namL_len {n : Nat} {ms : List Opm} {k : Nat} : (namL n ms k).length = 7 + cntL ms k := by
  unfold namL cntL
  simp [List.length_flatMap]
  omega
theorem namL_mem {n : Nat} {ms : List Opm} {m : Opm} {z : Int} (h : m ∈ ms) (hz : z ∈ m.zs) : z ∈ namL n ms ms.length := by
  unfold namL
  rw [List.take_length]
  exact List.mem_append_right _ (List.mem_flatMap.2 ⟨m, h, hz⟩)
end Go.Proofs.Ythfgjedcmhllfaa
