/- Layer 6: a node in new memory; how large a node is. -/
import Derived.Test.YtdffhllecojgcaaNd
namespace Go.Am
section
variable {P : Program} {o : Oper} {a : Slots} {L : RL}
/-- A list that is new, or the empty one that lies nowhere that matters. -/
def VL (e : TypeId) (sz r : Nat) (X : RL) (v : Value) (m : Nat) (new : List Value) : Prop :=
  (m = 0 ∧ new = [] ∧ X = [] ∧ v = .slice (some ⟨r, 0, none⟩) 0 0) ∨ ∃ r', X = [(r', .cells e new)] ∧ v = .slice (some ⟨r', 0, none⟩) m openCap ∧ new.length = m * sz
theorem SV.void {sz r : Nat} {row : ARow} {cs : List Value} (hm : (r, row) ∈ L) (hc : rdRow row = some cs) : SV sz L (.slice (some ⟨r, 0, none⟩) 0 0) 0 [] :=
  .inr ⟨r, 0, 0, row, cs, rfl, hm, hc, by rw [Nat.zero_mul]; exact cut_zero⟩
theorem VL.sv {e : TypeId} {sz r m : Nat} {X : RL} {v : Value} {new : List Value} {row : ARow} {cs : List Value} (h : VL e sz r X v m new) (hX : ∀ p, p ∈ X → p ∈ L) (hm : (r, row) ∈ L) (hc : rdRow row = some cs) : SV sz L v m new := by
  rcases h with ⟨rfl, rfl, rfl, rfl⟩ | ⟨r', rfl, rfl, hl⟩
  · exact SV.void hm hc
  · exact SV.row (hX _ (List.mem_cons_self ..)) hl
theorem e_appVoid {c : Call} {e : TypeId} {sz bts m r : Nat} {x : Value} {new : List Value} (hv0 : SV sz L (.slice (some ⟨r, 0, none⟩) 0 0) 0 []) (hs : SV sz L x m new) (hone : allOne new = true) (ho : o.op = .call c) (hT : appT P c = some (e, sz, bts)) (ha : evs a c.args.toList = some [.slice (some ⟨r, 0, none⟩) 0 0, x])
    (hsm : m * bts ≤ 1000000000000) (hsm2 : m ≤ 1000000000000) :
    ∀ h, Has h L → ∃ v h₁ L₁, opB P a o h = some (.val v h₁) ∧ Has h₁ L₁ ∧ ∃ X, L₁ = X ++ L ∧ VL e sz r X v m new := by
  intro h H
  have hn1 := hs.lenB
  have hf : firstB sz m x h = some new := hs.first H
  have hf0 : firstB sz 0 (.slice (some ⟨r, 0, none⟩) 0 0) h = some [] := hv0.first H
  have hone' : (allOne new && (notText x || Nat.beq sz 1)) = true := by rw [hone, hs.notText]; rfl
  unfold appT at hT
  split at hT
  case h_2 => cases hT
  rename_i hcal
  split at hT
  case h_2 => cases hT
  rename_i st xt hst hxt
  split at hT
  case h_2 => cases hT
  rename_i e' xd hu1 hu2
  have hxd : (∀ k, xd = .int k → False) ∧ ∃ i, P.info? e' = some i ∧ zeroFits P e' = true ∧ e' = e ∧ i.size = sz ∧ i.bytes = bts := by
    split at hT
    · cases hT
    · rename_i hno
      split at hT
      case h_2 => cases hT
      rename_i i hi hz
      simp at hT
      obtain ⟨rfl, rfl, rfl⟩ := hT
      exact ⟨fun k hk => hno k hk, i, hi, hz, rfl, rfl, rfl⟩
  obtain ⟨hno, i, hi, hz, rfl, rfl, rfl⟩ := hxd
  have hs' : sizeB P e' = some i.size := by unfold sizeB; rw [hi]
  rcases Nat.eq_zero_or_pos m with h0 | hpos
  · subst h0
    have hnew : new = [] := List.eq_nil_of_length_eq_zero (by have := hs.len; omega)
    subst hnew
    refine ⟨.slice (some ⟨r, 0, none⟩) 0 0, h, L, ?_, H, [], rfl, .inl ⟨rfl, rfl, rfl, rfl⟩⟩
    simp only [opB, ho, ha, callOpB, hcal, appendB, hst, hxt, hu1, hu2]
    cases xd <;> first | exact (hno _ rfl).elim | skip
    all_goals
      simp only [hi, hn1, hf, hone']
      rfl
  · obtain ⟨h₁, e₁⟩ := h.new_some (.cells e' new)
    refine ⟨.slice (some ⟨h.next, 0, none⟩) m openCap, h₁, _, ?_, H.new e₁, [(h.next, .cells e' new)], rfl, .inr ⟨_, rfl, rfl, hs.len⟩⟩
    have b2 : Nat.ble m 1000000000000 = true := Nat.ble_eq_true_of_le hsm2
    have hgrow : growB P h e' (0 + m) [] new = some (.slice (some ⟨h.next, 0, none⟩) m openCap, h₁) := by
      simp only [growB, join_of, hz, Nat.zero_add, b2, Bool.and_self, newCells, hs', List.nil_append, e₁]
    simp only [opB, ho, ha, callOpB, hcal, appendB, hst, hxt, hu1, hu2]
    cases xd <;> first | exact (hno _ rfl).elim | skip
    all_goals
      simp only [hi, hn1, hf, hone']
      have hc : Nat.beq 0 openCap = false := beq_false (by decide)
      have b0 : Nat.ble (0 + m) 0 = false := by
        cases hb : Nat.ble (0 + m) 0 with
        | false => rfl
        | true => have := of_ble hb; omega
      have b1 : smallB (0 + m + 0) i.bytes = true := by unfold smallB; exact Nat.ble_eq_true_of_le (by simpa using hsm)
      simp only [hc, b0, hf0, b1, hgrow, ret2]
end
end Go.Am
namespace Go.Proofs.Ytdffhllecojgcaa
open Go.Am
set_option linter.unusedVariables false
set_option maxRecDepth 20000

theorem tx_one : ∀ ts : List (List UInt8), allOne (tx ts) = true
  | [] => rfl
  | t :: r => by simp only [tx, List.map_cons, allOne]; exact tx_one r
theorem nums_one : ∀ zs : List Int, allOne (nums zs) = true
  | [] => rfl
  | z :: r => by simp only [nums, List.map_cons, allOne]; exact nums_one r
theorem given_ct {L : RL} {n : Nd} {v1 v2 v3 : Value} (h : NV L n v1 v2 v3) (hs : n.ks.length + n.vs.length + n.kids.length ≤ 5000) :
    CS Try.prog 11 [ndV n.leaf v1 v2 v3] L fun u L' => ∃ Y w1 w2 w3, u = ndV n.leaf w1 w2 w3 ∧ L' = Y ++ L ∧ NV L' n w1 w2 w3 := by
  obtain ⟨lf, ks, vs, kids⟩ := n
  obtain ⟨hk, hv, hz, b1, b2, b3, b4, b5⟩ := h
  simp only at hk hv hz hs b1 b2 b3 b4 b5
  refine CS.mk (fn := Try.f11) rfl rfl rfl rfl ?_
  repeat refine LS.seq ?_
  refine LS.region rfl ?_
  refine OS.fresh rfl (e_new (fun _ => rfl) rfl) (fun _ => rfl) (fun rn => ?_)
  refine OS.fresh rfl (e_new (fun _ => rfl) rfl) (fun _ => rfl) (fun rc => ?_)
  refine OS.nil ?_
  have hmem : ∀ (X : RL) p, p ∈ L → p ∈ X ++ (rc, ndRow false (.slice none 0 0) (.slice none 0 0) (.slice none 0 0)) :: (rn, nrRow lf v1 v2 v3) :: L := fun X p hp => List.mem_append_right _ (List.mem_cons_of_mem _ (List.mem_cons_of_mem _ hp))
  have hmn : ∀ (X : RL), (rn, nrRow lf v1 v2 v3) ∈ X ++ (rc, ndRow false (.slice none 0 0) (.slice none 0 0) (.slice none 0 0)) :: (rn, nrRow lf v1 v2 v3) :: L := fun X => List.mem_append_right _ (List.mem_cons_of_mem _ (List.mem_cons_self ..))
  repeat refine LS.seq ?_
  refine LS.drawn noGo mixed [(0, false), (1, false), (3, false), (4, false), (2, false), (7, false), (8, false), (6, false), (11, false), (12, false), (10, false), (5, true), (9, true), (13, true), (14, false), (15, true)] rfl rfl (by kernel_rfl) ?_
  refine ODS.pure rfl rfl (fun _ => rfl) rfl ?_
  refine ODS.read rfl rfl (e_loadm (hmn []) rfl rfl rfl rfl) rfl ?_
  refine ODS.pure rfl rfl (fun _ => rfl) rfl ?_
  refine ODS.read rfl rfl (e_loadm (hmn []) rfl rfl rfl rfl) rfl ?_
  refine ODS.void (r := rn) (off := 0) rfl rfl rfl rfl ?_
  refine ODS.pure rfl rfl (fun _ => rfl) rfl ?_
  refine ODS.read rfl rfl (e_loadm (hmn []) rfl rfl rfl rfl) rfl ?_
  refine ODS.void (r := rn) (off := 0) rfl rfl rfl rfl ?_
  refine ODS.pure rfl rfl (fun _ => rfl) rfl ?_
  refine ODS.read rfl rfl (e_loadm (hmn []) rfl rfl rfl rfl) rfl ?_
  refine ODS.void (r := rn) (off := 0) rfl rfl rfl rfl ?_
  refine ODS.turns rfl rfl (e_appVoid (sz := 1) (bts := 16) (m := ks.length) (SV.void (hmn []) rfl) (hk.mono (hmem [])) (tx_one ks) rfl rfl rfl (by omega) (by omega)) ?_
  rintro w1 L₁ ⟨X1, rfl, hX1⟩
  refine ⟨_, rfl, Keep.cons rfl (e_loadm (hmn X1) rfl rfl rfl rfl) (Keep.cons rfl (e_loadm (hmn X1) rfl rfl rfl rfl) (Keep.gone rfl (Keep.cons rfl (e_loadm (hmn X1) rfl rfl rfl rfl) Keep.nil))), ?_⟩
  refine ODS.turns rfl rfl (e_appVoid (sz := 1) (bts := 16) (m := vs.length) (SV.void (hmn X1) rfl) (hv.mono (hmem X1)) (tx_one vs) rfl rfl rfl (by omega) (by omega)) ?_
  rintro w2 L₁ ⟨X2, rfl, hX2⟩
  rw [← List.append_assoc]
  refine ⟨_, rfl, Keep.cons rfl (e_loadm (hmn (X2 ++ X1)) rfl rfl rfl rfl) (Keep.gone rfl (Keep.gone rfl (Keep.cons rfl (e_loadm (hmn (X2 ++ X1)) rfl rfl rfl rfl) Keep.nil))), ?_⟩
  refine ODS.turns rfl rfl (e_appVoid (sz := 1) (bts := 8) (m := kids.length) (SV.void (hmn (X2 ++ X1)) rfl) (hz.mono (hmem (X2 ++ X1))) (nums_one kids) rfl rfl rfl (by omega) (by omega)) ?_
  rintro w3 L₁ ⟨X3, rfl, hX3⟩
  rw [← List.append_assoc]
  refine ⟨_, rfl, Keep.gone rfl (Keep.gone rfl (Keep.gone rfl (Keep.cons rfl (e_loadm (hmn (X3 ++ (X2 ++ X1))) rfl rfl rfl rfl) Keep.nil))), ?_⟩
  have fin : ∀ row' : ARow, NV (X3 ++ (X2 ++ X1) ++ (rc, row') :: (rn, nrRow lf v1 v2 v3) :: L) ⟨lf, ks, vs, kids⟩ w1 w2 w3 := fun row' =>
    ⟨hX1.sv (fun p hp => by simp [hp]) (show (rn, nrRow lf v1 v2 v3) ∈ _ by simp) rfl, hX2.sv (fun p hp => by simp [hp]) (show (rn, nrRow lf v1 v2 v3) ∈ _ by simp) rfl, hX3.sv (fun p hp => by simp [hp]) (show (rn, nrRow lf v1 v2 v3) ∈ _ by simp) rfl, b1, b2, b3, b4, b5⟩
  rcases hX1 with ⟨_, _, rfl, rfl⟩ | ⟨q1, rfl, rfl, _⟩ <;> rcases hX2 with ⟨_, _, rfl, rfl⟩ | ⟨q2, rfl, rfl, _⟩ <;> rcases hX3 with ⟨_, _, rfl, rfl⟩ | ⟨q3, rfl, rfl, _⟩
  all_goals
    simp only [List.nil_append, List.append_nil, List.cons_append] at fin ⊢
    refine ODS.pure rfl rfl (fun _ => rfl) rfl ?_
    first
      | refine ODS.write rfl rfl (e_store 0 rfl rfl rfl rfl rfl rfl rfl rfl) rfl (Keep.gone rfl (Keep.gone rfl (Keep.gone rfl (Keep.gone rfl Keep.nil)))) ?_
      | refine ODS.write rfl rfl (e_store 1 rfl rfl rfl rfl rfl rfl rfl rfl) rfl (Keep.gone rfl (Keep.gone rfl (Keep.gone rfl (Keep.gone rfl Keep.nil)))) ?_
      | refine ODS.write rfl rfl (e_store 2 rfl rfl rfl rfl rfl rfl rfl rfl) rfl (Keep.gone rfl (Keep.gone rfl (Keep.gone rfl (Keep.gone rfl Keep.nil)))) ?_
      | refine ODS.write rfl rfl (e_store 3 rfl rfl rfl rfl rfl rfl rfl rfl) rfl (Keep.gone rfl (Keep.gone rfl (Keep.gone rfl (Keep.gone rfl Keep.nil)))) ?_
    refine ODS.nil ?_
    first
      | exact LS.ret ⟨_, res_cell 0 rfl rfl rfl rfl, [_, _], _, _, _, rfl, rfl, fin _⟩
      | exact LS.ret ⟨_, res_cell 1 rfl rfl rfl rfl, [_, _, _], _, _, _, rfl, rfl, fin _⟩
      | exact LS.ret ⟨_, res_cell 2 rfl rfl rfl rfl, [_, _, _, _], _, _, _, rfl, rfl, fin _⟩
      | exact LS.ret ⟨_, res_cell 3 rfl rfl rfl rfl, [_, _, _, _, _], _, _, _, rfl, rfl, fin _⟩
end Go.Proofs.Ytdffhllecojgcaa
