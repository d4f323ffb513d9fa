/- Layer 15: needs in memory; which may be; numbers compared. -/
import Derived.Test.YteakbbnlkjckhaaGrF
namespace Go.Am
set_option linter.unusedVariables false
set_option linter.unusedSimpArgs false
section
variable {P : Program} {a : Slots} {o : Oper} {L : RL}
theorem e_appendE {c : Call} {e : TypeId} {sz bts n r : Nat} {x : Value} {new : List Value} (hs : SV sz L x n new) (hn : 0 < n) (hone : allOne new = true) (ho : o.op = .call c) (hT : appT P c = some (e, sz, bts)) (ha : evs a c.args.toList = some [.slice (some ⟨r, 0, none⟩) 0 0, x])
    (hsm : n * bts ≤ 140737488355328) (hsm2 : n ≤ 140737488355328) :
    ∀ h, Has h L → ∃ r' h₁, opB P a o h = some (.val (.slice (some ⟨r', 0, none⟩) n openCap) h₁) ∧ Has h₁ ((r', .cells e new) :: L) := by
  intro h H
  have hn1 := hs.lenB
  have hf : firstB sz n x h = some new := hs.first H
  have hone' : (allOne new && (notText x || Nat.beq sz 1)) = true := by rw [hone, hs.notText]; rfl
  unfold appT at hT
  split at hT
  case h_2 => cases hT
  rename_i hcal
  split at hT
  case h_2 => cases hT
  rename_i st xt hst hxt
  split at hT
  case h_2 => cases hT
  rename_i e' xd hu1 hu2
  have hxd : (∀ k, xd = .int k → False) ∧ ∃ i, P.info? e' = some i ∧ zeroFits P e' = true ∧ e' = e ∧ i.size = sz ∧ i.bytes = bts := by
    split at hT
    · cases hT
    · rename_i hno
      split at hT
      case h_2 => cases hT
      rename_i i hi hz
      simp at hT
      obtain ⟨rfl, rfl, rfl⟩ := hT
      exact ⟨fun k hk => hno k hk, i, hi, hz, rfl, rfl, rfl⟩
  obtain ⟨hno, i, hi, hz, rfl, rfl, rfl⟩ := hxd
  obtain ⟨h₁, e₁⟩ := h.new_some (.cells e' ([] ++ new))
  refine ⟨h.next, h₁, ?_, H.new (by simpa using e₁)⟩
  have hs' : sizeB P e' = some i.size := by unfold sizeB; rw [hi]
  have b2 : Nat.ble n 140737488355328 = true := Nat.ble_eq_true_of_le (by omega)
  have hgrow : growB P h e' n [] new = some (.slice (some ⟨h.next, 0, none⟩) n openCap, h₁) := by
    simp only [growB, join_of, hz, b2, Bool.and_self, newCells, hs', e₁]
  simp only [opB, ho, ha, callOpB, hcal, appendB, hst, hxt, hu1, hu2]
  cases xd <;> first | exact (hno _ rfl).elim | skip
  all_goals
    simp only [hi, hn1, hf, hone']
    have hc : Nat.beq 0 openCap = false := beq_false (by decide)
    have b0 : Nat.ble n 0 = false := by
      cases hb : Nat.ble n 0 with
      | false => rfl
      | true => have := of_ble hb; omega
    have b1 : smallB n i.bytes = true := by unfold smallB; exact Nat.ble_eq_true_of_le (by simpa using hsm)
    have bf : firstB i.size 0 (.slice (some ⟨r, 0, none⟩) 0 0) h = some [] := by simp [firstB]
    simp only [Nat.zero_add, Nat.add_zero, hc, b0, bf, b1, hgrow, ret2]

theorem e_appendN {c : Call} {e : TypeId} {sz bts n r : Nat} {x : Value} {new : List Value} (hs : SV sz L x 0 new) (hn : n < openCap) (ho : o.op = .call c) (hT : appT P c = some (e, sz, bts)) (ha : evs a c.args.toList = some [.slice (some ⟨r, 0, none⟩) n n, x]) :
    ∀ h, Has h L → opB P a o h = some (.val (.slice (some ⟨r, 0, none⟩) n n) h) := by
  intro h H
  have hn1 := hs.lenB
  have hnew : new = [] := List.eq_nil_of_length_eq_zero (by have := hs.len; omega)
  subst hnew
  have hf : firstB sz 0 x h = some [] := hs.first H
  have hone' : (allOne [] && (notText x || Nat.beq sz 1)) = true := by rw [hs.notText]; rfl
  unfold appT at hT
  split at hT
  case h_2 => cases hT
  rename_i hcal
  split at hT
  case h_2 => cases hT
  rename_i st xt hst hxt
  split at hT
  case h_2 => cases hT
  rename_i e' xd hu1 hu2
  have hxd : (∀ k, xd = .int k → False) ∧ ∃ i, P.info? e' = some i ∧ zeroFits P e' = true ∧ e' = e ∧ i.size = sz ∧ i.bytes = bts := by
    split at hT
    · cases hT
    · rename_i hno
      split at hT
      case h_2 => cases hT
      rename_i i hi hz
      simp at hT
      obtain ⟨rfl, rfl, rfl⟩ := hT
      exact ⟨fun k hk => hno k hk, i, hi, hz, rfl, rfl, rfl⟩
  obtain ⟨hno, i, hi, hz, rfl, rfl, rfl⟩ := hxd
  simp only [opB, ho, ha, callOpB, hcal, appendB, hst, hxt, hu1, hu2]
  cases xd <;> first | exact (hno _ rfl).elim | skip
  all_goals
    simp only [hi, hn1, hf, hone']
    have hc : Nat.beq n openCap = false := beq_false (by omega)
    have b0 : Nat.ble (n + 0) n = true := Nat.ble_eq_true_of_le (by omega)
    simp only [hc, b0, beq_true rfl, ret2]
/-- What is appended to an empty list of one's own. -/
theorem e_appOwn {c : Call} {e : TypeId} {sz bts n r : Nat} {x : Value} {new : List Value} (hs : SV sz L x n new) (hone : allOne new = true) (ho : o.op = .call c) (hT : appT P c = some (e, sz, bts)) (ha : evs a c.args.toList = some [.slice (some ⟨r, 0, none⟩) 0 0, x]) (hsm : n * bts ≤ 140737488355328) (hsm2 : n ≤ 140737488355328) :
    ∀ h, Has h L → ∃ v h₁ L₁, opB P a o h = some (.val v h₁) ∧ Has h₁ L₁ ∧ ∃ X, L₁ = X ++ L ∧ ((n = 0 ∧ v = .slice (some ⟨r, 0, none⟩) 0 0 ∧ X = []) ∨ ∃ r', v = .slice (some ⟨r', 0, none⟩) n openCap ∧ X = [(r', .cells e new)]) := by
  intro h H
  rcases Nat.eq_zero_or_pos n with rfl | hn
  · exact ⟨_, h, L, e_appendN hs (by decide) ho hT ha h H, H, [], rfl, .inl ⟨rfl, rfl, rfl⟩⟩
  · obtain ⟨r', h₁, e₁, H₁⟩ := e_appendE hs hn hone ho hT ha hsm hsm2 h H
    exact ⟨_, h₁, _, e₁, H₁, [(r', .cells e new)], rfl, .inr ⟨r', rfl, rfl⟩⟩
end
end Go.Am
namespace Go.Gp
/-- How many needs there are. -/
def tot {A : Type} (Z : List (List A)) : Nat := (Z.map List.length).sum
theorem tot_succ {A : Type} {Z : List (List A)} {i : Nat} {w : List A} (h : Z[i]? = some w) : tot (Z.take (i + 1)) = tot (Z.take i) + w.length := by
  unfold tot; rw [List.take_add_one, h]; simp
theorem tot_le {A : Type} (Z : List (List A)) (i : Nat) : tot (Z.take i) ≤ tot Z := by
  have : tot Z = tot (Z.take i) + tot (Z.drop i) := by
    unfold tot
    rw [← List.sum_append, ← List.map_append, List.take_append_drop]
  omega
theorem tot_all {A : Type} {Z : List (List A)} {i : Nat} (h : Z.length ≤ i) : tot (Z.take i) = tot Z := by rw [List.take_of_length_le h]
theorem tot_mem {A : Type} {Z : List (List A)} {i : Nat} {w : List A} (h : Z[i]? = some w) : w.length ≤ tot Z := by
  have := tot_le Z (i + 1)
  rw [tot_succ h] at this; omega
def isT (n : Nat) (k : Int) : Bool := decide (0 ≤ k ∧ k < n)
def may (Z : List (List Int)) : Bool := decide (Z.length ≤ 4096) && (decide (tot Z ≤ 65536) && Z.all fun w => w.all (isT Z.length))
def nat (Z : List (List Int)) : Nd := Z.map fun w => w.map Int.toNat
theorem nat_len (Z : List (List Int)) : (nat Z).length = Z.length := by simp [nat]
theorem may_iff {Z : List (List Int)} : may Z = true ↔ Z.length ≤ 4096 ∧ tot Z ≤ 65536 ∧ ∀ w, w ∈ Z → ∀ k, k ∈ w → isT Z.length k = true := by
  simp [may]
theorem may_bad {Z : List (List Int)} {i j : Nat} {w : List Int} {k : Int} (hw : Z[i]? = some w) (hk : w[j]? = some k) (h : isT Z.length k = false) : may Z = false := by
  cases hm : may Z with
  | false => rfl
  | true =>
    have := (may_iff.1 hm).2.2 w (List.mem_of_getElem? hw) k (List.mem_of_getElem? hk)
    rw [h] at this; cases this
theorem nat_ok {Z : List (List Int)} (h : may Z = true) : Ok (nat Z) := fun i k hk => by
  have hi := nd_lt hk
  rw [nat_len] at hi ⊢
  have e : (nat Z)[i]? = some ((Z[i]).map Int.toNat) := by unfold nat; rw [List.getElem?_map, List.getElem?_eq_getElem hi]; rfl
  rw [nd_at e] at hk
  obtain ⟨z, hz, rfl⟩ := List.mem_map.1 hk
  have := (may_iff.1 h).2.2 _ (List.getElem_mem hi) z hz
  simp [isT] at this
  omega
end Go.Gp
namespace Go.Proofs.Yteakbbnlkjckhaa
open Go.Am Go.Gp
set_option linter.unusedVariables false
set_option linter.unusedSimpArgs false
set_option maxRecDepth 20000
set_option maxHeartbeats 4000000
attribute [local irreducible] OS LSr ODS CS
abbrev iZ (k : Int) : Value := .int .i64 k
def zs (l : List Int) : List Value := l.map iZ
theorem zs_len (l : List Int) : (zs l).length = l.length := by simp [zs]
theorem zs_at {l : List Int} {j : Nat} {k : Int} (h : l[j]? = some k) : (zs l)[j]? = some (iZ k) := by simp [zs, h]
theorem zs_one : ∀ l : List Int, allOne (zs l) = true
  | [] => rfl
  | w :: ws => by simp only [zs, List.map_cons, allOne]; exact zs_one ws
theorem ns_zs (l : List Nat) : ns l = zs (l.map Int.ofNat) := by simp [ns, zs]
/-- A list of lists. -/
def NL (L : RL) (v : Value) (C : List (List Value)) : Prop := ∃ ics, SV 1 L v C.length ics ∧ ∀ (i : Nat) (w : List Value), C[i]? = some w → ∃ a, ics[i]? = some a ∧ SV 1 L a w.length w
theorem NL.mono {L L' : RL} {v : Value} {C : List (List Value)} (h : NL L v C) (hm : ∀ p, p ∈ L → p ∈ L') : NL L' v C := by
  obtain ⟨ics, h1, h2⟩ := h
  exact ⟨ics, h1.mono hm, fun i w hw => by obtain ⟨a, h3, h4⟩ := h2 i w hw; exact ⟨a, h3, h4.mono hm⟩⟩
theorem NL.form {L : RL} {v : Value} {C : List (List Value)} (h : NL L v C) : ∃ A c, v = .slice A C.length c := by
  obtain ⟨ics, h1, _⟩ := h; exact h1.form
def zv (Z : List (List Int)) : List (List Value) := Z.map zs
def nv (M : Nd) : List (List Value) := M.map ns
theorem zv_len (Z : List (List Int)) : (zv Z).length = Z.length := by simp [zv]
theorem nv_len (M : Nd) : (nv M).length = M.length := by simp [nv]
theorem NL.ofZ {L : RL} {v : Value} {Z : List (List Int)} (h : NL L v (zv Z)) : ∃ ics, SV 1 L v Z.length ics ∧ ∀ (i : Nat) (w : List Int), Z[i]? = some w → ∃ a, ics[i]? = some a ∧ SV 1 L a w.length (zs w) := by
  obtain ⟨ics, h1, h2⟩ := h
  rw [zv_len] at h1
  refine ⟨ics, h1, fun i w hw => ?_⟩
  obtain ⟨a, h3, h4⟩ := h2 i (zs w) (by simp [zv, hw])
  rw [zs_len] at h4
  exact ⟨a, h3, h4⟩
theorem NL.ofN {L : RL} {v : Value} {M : Nd} (h : NL L v (nv M)) : ∃ ics, SV 1 L v M.length ics ∧ ∀ (i : Nat) (w : List Nat), M[i]? = some w → ∃ a, ics[i]? = some a ∧ SV 1 L a w.length (ns w) := by
  obtain ⟨ics, h1, h2⟩ := h
  rw [nv_len] at h1
  refine ⟨ics, h1, fun i w hw => ?_⟩
  obtain ⟨a, h3, h4⟩ := h2 i (ns w) (by simp [nv, hw])
  rw [ns_len] at h4
  exact ⟨a, h3, h4⟩
/-- Needs that may be are numbers of things. -/
theorem zv_nat {Z : List (List Int)} (h : may Z = true) : zv Z = nv (nat Z) := by
  have h3 := (may_iff.1 h).2.2
  unfold zv nv nat
  rw [List.map_map]
  refine List.map_congr_left fun w hw => ?_
  rw [Function.comp, ns_zs, List.map_map]
  congr 1
  have : w.map (fun k => k) = w.map (Int.ofNat ∘ Int.toNat) := List.map_congr_left fun k hk => by
    have := h3 w hw k hk
    simp [isT] at this
    show k = ((k.toNat : Nat) : Int)
    omega
  simpa using this
theorem isThing_ct {L : RL} {v : Value} {n : Nat} {cs : List Value} (hv : SV 1 L v n cs) (k : Int) : CS Try.prog 25 [v, iZ k] L fun u L' => u = .bool (isT n k) ∧ L' = L := by
  refine CS.mk (fn := Try.f25) rfl rfl rfl rfl ?_
  rcases tf (ileB 0 k) with h1 | h1
  · have e : (!ileB ((n : Nat) : Int) k) = isT n k := by
      rw [ileB_eq] at h1 ⊢
      simp at h1
      unfold isT
      by_cases h : k < n <;> simp [h, h1] <;> omega
    refine yG ?_
    exact ⟨rfl, rfl⟩
  · have e : isT n k = false := by
      rw [ileB_eq] at h1
      simp at h1
      unfold isT
      simp; omega
    rw [e]
    refine yG ?_
    exact ⟨rfl, rfl⟩
theorem mayBe_ct {L : RL} {v : Value} {Z : List (List Int)} (hv : NL L v (zv Z)) : CS Try.prog 23 [v] L fun u L' => u = .bool (may Z) ∧ L' = L := by
  obtain ⟨ics, hs, hg⟩ := hv.ofZ
  refine CS.mk (fn := Try.f23) rfl rfl rfl rfl ?_
  by_cases hbig : 4096 < Z.length
  · have hb : (!ileB ((Z.length : Nat) : Int) 4096) = true := by rw [ileB_eq]; simp; omega
    refine yG ?_
    refine ⟨?_, rfl⟩
    have : may Z = false := by unfold may; rw [decide_eq_false (by omega)]; rfl
    rw [this]; rfl
  have hb : (!ileB ((Z.length : Nat) : Int) 4096) = false := by rw [ileB_eq]; simp; omega
  refine yG ?_
  refine LS.loopJ [0, 3, 11, 12, 13] (fun q a L' => ∃ i : Nat, q = Z.length - i ∧ i ≤ Z.length ∧ tot (Z.take i) ≤ 65536 ∧ (∀ w, w ∈ Z.take i → ∀ k, k ∈ w → isT Z.length k = true) ∧ L' = L ∧ a = [v, .chan none, .chan none, iN (tot (Z.take i)), .chan none, .chan none, .chan none, .chan none, .chan none, .chan none, .chan none, v, iN Z.length, iN i, .chan none, .chan none, .chan none, .chan none, .chan none, .chan none, .chan none, .chan none, .chan none, .chan none, .chan none, .chan none, .chan none, .chan none, .chan none, .chan none, .chan none, .chan none, .chan none, .chan none, .chan none, .chan none, .chan none, .chan none]) (n := Z.length) rfl ⟨0, rfl, by omega, by simp [tot], by simp, rfl, rfl⟩ ?_
  rintro q a L' ⟨i, rfl, hi, ht, hall, hL, rfl⟩
  rw [hL]
  clear hL
  by_cases hin : i < Z.length
  · have hbi : (!ileB ((Z.length : Nat) : Int) (i : Nat)) = true := by rw [ileB_eq]; simp; omega
    obtain ⟨w, hw⟩ := ext_list hin
    obtain ⟨b, ha, hsw⟩ := hg i w hw
    have hts := tot_succ hw
    refine yG ?_
    refine OS.at1 (j := i) (hs) (ha) rfl rfl rfl rfl rfl rfl (fun ra0 oa0 rowa0 csa0 ma0 ca0 ga0 => ⟨_, rfl, ?_⟩)
    refine OS.read rfl (e_loadm ma0 ca0 rfl rfl (part_one rfl ga0)) rfl ?_
    refine yG ?_
    refine OS.pure rfl (e_is (v' := iN (65536 - tot (Z.take i))) (e_sub rfl rfl rfl (in_i64 (by omega) (by omega))) (by simp; omega)) rfl ?_
    by_cases hov : 65536 - tot (Z.take i) < w.length
    · have hb2 : (!ileB ((w.length : Nat) : Int) ((65536 - tot (Z.take i) : Nat) : Int)) = true := by rw [ileB_eq]; simp; omega
      refine yG ?_
      refine ⟨?_, rfl⟩
      have h1 := tot_le Z (i + 1)
      have : may Z = false := by unfold may; rw [decide_eq_false (p := tot Z ≤ 65536) (by omega)]; simp
      rw [this]; rfl
    have hb2 : (!ileB ((w.length : Nat) : Int) ((65536 - tot (Z.take i) : Nat) : Int)) = false := by rw [ileB_eq]; simp; omega
    refine yG ?_
    rw [← hts]
    refine LS.loopJ [0, 3, 11, 12, 13, 26, 27, 28] (fun q a L' => ∃ j : Nat, q = w.length - j ∧ j ≤ w.length ∧ (∀ k, k ∈ w.take j → isT Z.length k = true) ∧ L' = L ∧ a = [v, .chan none, .chan none, iN (tot (Z.take (i + 1))), .chan none, .chan none, .chan none, .chan none, .chan none, .chan none, .chan none, v, iN Z.length, iN i, .chan none, .chan none, .chan none, .chan none, .chan none, .chan none, .chan none, .chan none, .chan none, .chan none, .chan none, .chan none, b, iN w.length, iN j, .chan none, .chan none, .chan none, .chan none, .chan none, .chan none, .chan none, .chan none, .chan none]) (n := w.length) rfl ⟨0, rfl, by omega, by simp, rfl, rfl⟩ ?_
    rintro q a L' ⟨j, rfl, hj, hjk, hL, rfl⟩
    rw [hL]
    clear hL
    by_cases hjw : j < w.length
    · have hbj : (!ileB ((w.length : Nat) : Int) (j : Nat)) = true := by rw [ileB_eq]; simp; omega
      obtain ⟨k, hk⟩ := ext_list hjw
      refine yG ?_
      refine OS.at1 (j := j) (hsw) (zs_at hk) rfl rfl rfl rfl rfl rfl (fun ra0 oa0 rowa0 csa0 ma0 ca0 ga0 => ⟨_, rfl, ?_⟩)
      refine OS.read rfl (e_loadm ma0 ca0 rfl rfl (part_one rfl ga0)) rfl ?_
      refine yG ?_
      refine OS.callS noGo rfl (fun _ => rfl) (isThing_ct hs k) rfl ?_
      rcases tf (isT Z.length k) with hT | hT
      · rw [hT]
        refine yG ?_
        refine ⟨w.length - (j + 1), by omega, j + 1, rfl, by omega, fun y hy => ?_, rfl, rfl⟩
        rw [List.take_add_one, hk] at hy
        rcases List.mem_append.1 hy with hy | hy
        · exact hjk y hy
        · simp at hy; subst hy; exact hT
      · rw [hT]
        have : may Z = false := may_bad hw hk hT
        rw [this]
        refine yG ?_
        exact ⟨rfl, rfl⟩
    · have hbj : (!ileB ((w.length : Nat) : Int) (j : Nat)) = false := by rw [ileB_eq]; simp; omega
      refine yG ?_
      refine LS.exit ?_
      refine yG ?_
      refine ⟨Z.length - (i + 1), by omega, i + 1, rfl, by omega, by omega, fun x hx k hk => ?_, rfl, rfl⟩
      rw [List.take_add_one, hw] at hx
      rcases List.mem_append.1 hx with hx | hx
      · exact hall x hx k hk
      · simp at hx; subst hx
        rw [List.take_of_length_le (by omega)] at hjk
        exact hjk k hk
  · have hbi : (!ileB ((Z.length : Nat) : Int) (i : Nat)) = false := by rw [ileB_eq]; simp; omega
    have : may Z = true := may_iff.2 ⟨by omega, by rw [← tot_all (i := i) (by omega)]; exact ht, by rw [List.take_of_length_le (by omega)] at hall; exact hall⟩
    rw [this]
    refine yG ?_
    refine LS.exit ?_
    refine yG ?_
    exact ⟨rfl, rfl⟩
end Go.Proofs.Yteakbbnlkjckhaa
