import Derived.Test.YtllcbjaajffaeaaGreatDoorRe
namespace Go.Am
set_option linter.unusedVariables false
variable {P : Program}
def WL (e : TypeId) (F : RL) (v : Value) (n : Nat) (cs : List Value) : Prop :=
  (v = .slice none 0 0 ∧ n = 0 ∧ cs = []) ∨ ∃ r off cap row cs₀, v = .slice (some ⟨r, off, none⟩) n cap ∧ (r, row) ∈ F ∧ rdRow row = some cs₀ ∧ cut cs₀ off (n * 1) = some cs ∧ ((cap < openCap ∧ n ≤ cap) ∨ (cap = openCap ∧ ∃ cs₁, row = .cells e cs₁))
section
variable {e : TypeId} {n : Nat} {v : Value} {cs : List Value} {F G L : RL}
theorem WL.sv (h : WL e F v n cs) : SV 1 F v n cs := by
  rcases h with h | ⟨r, off, cap, row, cs₀, h1, h2, h3, h4, _⟩
  · exact .inl h
  · exact .inr ⟨r, off, cap, row, cs₀, h1, h2, h3, h4⟩
theorem WL.form (h : WL e F v n cs) : ∃ A c, v = .slice A n c := by
  rcases h with ⟨rfl, rfl, _⟩ | ⟨r, off, cap, row, cs₀, rfl, _⟩
  · exact ⟨_, _, rfl⟩
  · exact ⟨_, _, rfl⟩
def allS (cs : List Value) : Prop := ∀ c, c ∈ cs → ∃ s : List UInt8, c = .string ⟨⟨s⟩⟩
def WO (e : TypeId) (F : RL) (v : Value) (n : Nat) (cs : List Value) : Prop :=
  (v = .slice none 0 0 ∧ n = 0 ∧ cs = []) ∨ ∃ r off cap row cs₀, v = .slice (some ⟨r, off, none⟩) n cap ∧ (r, row) ∈ F ∧ rdRow row = some cs₀ ∧ cut cs₀ off (n * 1) = some cs ∧ ((cap = openCap ∧ row = .cells e cs₀ ∧ allS cs₀) ∨ (n = 0 ∧ cap < openCap))
theorem WO.wl (h : WO e F v n cs) : WL e F v n cs := by
  rcases h with h | ⟨r, off, cap, row, cs₀, h1, h2, h3, h4, ⟨h5, h6, _⟩ | ⟨h5, h6⟩⟩
  · exact .inl h
  · exact .inr ⟨r, off, cap, row, cs₀, h1, h2, h3, h4, .inr ⟨h5, _, h6⟩⟩
  · exact .inr ⟨r, off, cap, row, cs₀, h1, h2, h3, h4, .inl ⟨h6, by omega⟩⟩
theorem WO.sv (h : WO e F v n cs) : SV 1 F v n cs := h.wl.sv
theorem WO.form (h : WO e F v n cs) : ∃ A c, v = .slice A n c := h.wl.form
theorem WO.mono (h : WO e F v n cs) (hm : ∀ p, p ∈ F → p ∈ G) : WO e G v n cs := by
  rcases h with h | ⟨r, off, cap, row, cs₀, h1, h2, h3⟩
  · exact .inl h
  · exact .inr ⟨r, off, cap, row, cs₀, h1, hm _ h2, h3⟩
theorem e_sliceWO {o : Oper} {a : Slots} {t : TypeId} {x lo : Operand} {k : IntKind} (l : Nat) (hs : WO e F v n cs) (hF : ∀ p, p ∈ F → p ∈ L) (ho : o.op = .slice t x (some lo) none none) (hx : aev a x = some v) (hlo : aev a lo = some (.int k (l : Nat)))
    (ht : P.underlying t = some (.slice e)) (hz : sizeB P e = some 1) (hl : l ≤ n) :
    ∃ v', WO e F v' (n - l) (cs.drop l) ∧ ∀ h, Has h L → opB P a o h = some (.val v' h) := by
  have hlo' : optEv a (some lo) = some (some (.int k (l : Nat))) := by simp only [optEv, hlo]
  have hm : optEv a none = some none := rfl
  have bl : boundB (some (.int k (l : Nat))) 0 = some l := bound_nat
  have bu : boundB none n = some n := rfl
  have h2 : Nat.ble l n = true := Nat.ble_eq_true_of_le hl
  rcases hs with ⟨rfl, rfl, rfl⟩ | ⟨r, off, cap, row, cs₀, rfl, hmem, hc, hcut, hcap⟩
  · have hl0 : l = 0 := by omega
    subst hl0
    refine ⟨.slice none 0 0, .inl ⟨rfl, rfl, by simp⟩, fun h _ => ?_⟩
    have hc : Nat.beq 0 openCap = false := beq_false (by decide)
    have h1 : Nat.ble 0 (farB 0 0) = true := rfl
    have h3 : rowOk h e none 0 = true := by unfold rowOk; rw [hc]; rfl
    simp only [opB, ho, hx, hlo', hm, sliceB, ht, bu, bl, hz, h1, h2, h3, Bool.true_and, moved, hc, ret]
  · have hlen := (cut_eq hcut).2.2.1
    have hcut' : cut cs₀ (off + l * 1) ((n - l) * 1) = some (cs.drop l) := by
      have := cut_cut (o := l * 1) (m := (n - l) * 1) hcut (cut_of (by rw [hlen]; omega))
      rw [this, Nat.mul_one, Nat.mul_one, List.take_of_length_le (by rw [List.length_drop, hlen]; omega)]
    rcases hcap with ⟨rfl, rfl, hall⟩ | ⟨hn0, hne⟩
    · refine ⟨.slice (some ⟨r, off + l * 1, none⟩) (n - l) openCap, .inr ⟨r, _, _, _, cs₀, rfl, hmem, hc, hcut', .inl ⟨rfl, rfl, hall⟩⟩, fun h H => ?_⟩
      have hcb : Nat.beq openCap openCap = true := beq_true rfl
      have h1 : Nat.ble n (farB n openCap) = true := by unfold farB; rw [hcb]; exact Nat.ble_eq_true_of_le (Nat.le_refl _)
      have hg : getRow h r = some (e, cs₀) := by unfold getRow; rw [H.get _ (hF _ hmem)]
      have h3 : rowOk h e (some ⟨r, off, none⟩) openCap = true := by unfold rowOk; rw [hcb]; simp only [hg, beq_true rfl]
      simp only [opB, ho, hx, hlo', hm, sliceB, ht, bu, bl, hz, h1, h2, h3, Bool.true_and, moved, hcb, ret]
    · refine ⟨.slice (some ⟨r, off + l * 1, none⟩) (n - l) (cap - l), .inr ⟨r, _, _, row, cs₀, rfl, hmem, hc, hcut', .inr ⟨by omega, by omega⟩⟩, fun h H => ?_⟩
      have hcb : Nat.beq cap openCap = false := beq_false (by omega)
      have h1 : Nat.ble n (farB n cap) = true := by unfold farB; rw [hcb]; exact Nat.ble_eq_true_of_le (by omega)
      have h3 : rowOk h e (some ⟨r, off, none⟩) cap = true := by unfold rowOk; rw [hcb]; exact Nat.ble_eq_true_of_le (by omega)
      simp only [opB, ho, hx, hlo', hm, sliceB, ht, bu, bl, hz, h1, h2, h3, Bool.true_and, moved, hcb, ret]
end
theorem res_cell2 (i : Nat) {a : Slots} {L : RL} {x y r off : Nat} {t : TypeId} {row : ARow} {cs : List Value} {v u : Value} (hx : a[x]? = some (.pointer (some ⟨r, off, none⟩))) (hL : L[i]? = some (r, row)) (hc : rdRow row = some cs) (hv : partB P t cs off = some v) (hy : a[y]? = some u) : ∀ h, Has h L → resultsB P a h [.cell x t, .tmp y] = some [v, u] := by
  intro h H
  have hl : loadB P t (.pointer (some ⟨r, off, none⟩)) h = some v := by simp only [loadB, H.read hL hc, hv]
  simp only [resultsB, hx, hl, hy]
section
variable {P : Program} {e : TypeId} {n : Nat} {v : Value} {cs : List Value} {F L : RL} {o : Oper} {a : Slots} {t : TypeId} {x hi : Operand} {k : IntKind}
theorem e_sliceHi (u : Nat) (hs : WL e F v n cs) (hF : ∀ p, p ∈ F → p ∈ L) (ho : o.op = .slice t x none (some hi) none) (hx : aev a x = some v) (hhi : aev a hi = some (.int k (u : Nat)))
    (ht : P.underlying t = some (.slice e)) (hz : sizeB P e = some 1) (hu : u ≤ n) :
    ∃ v', (WL e F v' u (cs.take u) ∧ ∃ A c, v' = .slice A u c) ∧ ∀ h, Has h L → opB P a o h = some (.val v' h) := by
  have hlo' : optEv a none = some none := rfl
  have hhi' : optEv a (some hi) = some (some (.int k (u : Nat))) := by simp only [optEv, hhi]
  have bl : boundB none 0 = some 0 := rfl
  have bu : boundB (some (.int k (u : Nat))) n = some u := bound_nat
  have h2 : Nat.ble 0 u = true := Nat.ble_eq_true_of_le (Nat.zero_le _)
  rcases hs with ⟨rfl, rfl, rfl⟩ | ⟨r, off, cap, row, cs₀, rfl, hmem, hc, hcut, hcap⟩
  · have hu0 : u = 0 := by omega
    subst hu0
    refine ⟨.slice none 0 0, ⟨.inl ⟨rfl, rfl, by simp⟩, _, _, rfl⟩, fun h _ => ?_⟩
    have hc : Nat.beq 0 openCap = false := beq_false (by decide)
    have h1 : Nat.ble 0 (farB 0 0) = true := rfl
    have h3 : rowOk h e none 0 = true := by unfold rowOk; rw [hc]; rfl
    simp only [opB, ho, hx, hlo', hhi', sliceB, ht, bu, bl, hz, h1, h2, h3, Bool.true_and, moved, hc, ret]
  · have hlen := (cut_eq hcut).2.2.1
    have hcut' : cut cs₀ (off + 0 * 1) (u * 1) = some (cs.take u) := by
      have := cut_cut (o := 0) (m := u * 1) hcut (cut_of (by rw [hlen]; omega))
      simpa using this
    rcases hcap with ⟨hne, hcap⟩ | ⟨rfl, cs₁, rfl⟩
    · refine ⟨.slice (some ⟨r, off + 0 * 1, none⟩) (u - 0) (cap - 0), ⟨.inr ⟨r, _, _, row, cs₀, rfl, hmem, hc, hcut', .inl ⟨by omega, by omega⟩⟩, _, _, rfl⟩, fun h H => ?_⟩
      have hcb : Nat.beq cap openCap = false := beq_false (by omega)
      have h1 : Nat.ble u (farB n cap) = true := by unfold farB; rw [hcb]; exact Nat.ble_eq_true_of_le (Nat.le_trans hu hcap)
      have h3 : rowOk h e (some ⟨r, off, none⟩) cap = true := by unfold rowOk; rw [hcb]; exact Nat.ble_eq_true_of_le (by omega)
      simp only [opB, ho, hx, hlo', hhi', sliceB, ht, bu, bl, hz, h1, h2, h3, Bool.true_and, moved, hcb, ret]
    · refine ⟨.slice (some ⟨r, off + 0 * 1, none⟩) (u - 0) openCap, ⟨.inr ⟨r, _, _, _, cs₀, rfl, hmem, hc, hcut', .inr ⟨rfl, _, rfl⟩⟩, _, _, rfl⟩, fun h H => ?_⟩
      have hcb : Nat.beq openCap openCap = true := beq_true rfl
      have h1 : Nat.ble u (farB n openCap) = true := by unfold farB; rw [hcb]; exact Nat.ble_eq_true_of_le hu
      have hg : getRow h r = some (e, cs₁) := by unfold getRow; rw [H.get _ (hF _ hmem)]
      have h3 : rowOk h e (some ⟨r, off, none⟩) openCap = true := by unfold rowOk; rw [hcb]; simp only [hg, beq_true rfl]
      simp only [opB, ho, hx, hlo', hhi', sliceB, ht, bu, bl, hz, h1, h2, h3, Bool.true_and, moved, hcb, ret]
end
end Go.Am
namespace Go.Proofs.YtllcbjaajffaeaaGreatDoor
open Go.Am
set_option linter.unusedVariables false
set_option maxRecDepth 20000
set_option maxHeartbeats 4000000
attribute [local irreducible] OS LSr ODS CS YS
abbrev W := List UInt8
theorem strs_get {ws : List W} {j : Nat} {w : W} (h : ws[j]? = some w) : (strs ws)[j]? = some (str w) := by simp [strs, h]
abbrev Wd (G : RL) (s : Value) (w : List W) : Prop := WO 9 G s w.length (strs w)
theorem allS_strs (ws : List W) : allS (strs ws) := fun c hc => by obtain ⟨w, _, rfl⟩ := List.mem_map.1 hc; exact ⟨w, rfl⟩
abbrev errV (e : Nat) : Value := match e with
  | 0 => .nilIface
  | _ + 1 => eV (e : Nat)
section
variable {M : RL}
theorem each1_ct {p : W → Bool} {E rf re : Nat} {f0 : FuncId} {cap0 : List Value} {v : Value} {A : List W} (hf : (rf, ARow.cells 41 [.func (.func f0) #[] ⟨cap0⟩]) ∈ M) (he : (re, ARow.cells 27 [.int .i64 (E : Nat)]) ∈ M)
    (hc : ∀ s, s ∈ A → CS Tryz.prog f0 (str s :: cap0) M fun u M' => u = .bool (p s) ∧ M' = M) (hv : SV 1 M v A.length (strs A)) (hA : A.length ≤ 1000000) :
    CS Tryz.prog 154 [v, ptr rf, ptr re] M fun u M' => u = (if A.all p then .nilIface else eV (E : Nat)) ∧ M' = M := by
  refine CS.mk (fn := Tryz.f154) rfl rfl rfl rfl ?_
  refine yG ?_
  refine LS.loopJ [0, 1, 2, 7, 8, 9] (fun q a M' => ∃ k : Nat, q = A.length - k ∧ k ≤ A.length ∧ (A.take k).all p = true ∧ M' = M ∧ a = [v, ptr rf, ptr re, .chan none, .chan none, .chan none, .chan none, v, .int .i64 (A.length : Nat), .int .i64 (k : Nat), .chan none, .chan none, .chan none, .chan none, .chan none, .chan none, .chan none, .chan none, .chan none, .chan none]) (n := A.length) rfl ⟨0, rfl, by omega, rfl, rfl, rfl⟩ ?_
  rintro q a M' ⟨k, rfl, hk, hall, rfl, rfl⟩
  refine yG ?_
  repeat refine LS.seq ?_
  refine LS.cond rfl (fun hcc => ?_) (fun hcc => ?_)
  · have hcc := lt_of hcc
    obtain ⟨w, hw⟩ : ∃ w, A[k]? = some w := ⟨_, List.getElem?_eq_getElem (show k < A.length by omega)⟩
    refine LS.skip ?_
    repeat refine LS.seq ?_
    refine LS.block ?_
    refine yG ?_
    refine OS.at1 (j := k) (hv) (strs_get hw) rfl rfl rfl rfl rfl rfl (fun ra0 oa0 rowa0 csa0 ma0 ca0 ga0 => ⟨_, rfl, ?_⟩)
    refine OS.read rfl (e_loadm ma0 ca0 rfl rfl (part_one rfl ga0)) rfl ?_
    refine yG ?_
    refine OS.read rfl (e_loadm hf rfl rfl rfl (part_one rfl rfl)) rfl ?_
    refine yG ?_
    refine OS.call noGo rfl (fun _ => rfl) ((hc w (List.mem_of_getElem? hw)).mono ?_)
    rintro u M' ⟨rfl, rfl⟩
    refine ⟨_, rfl, ?_⟩
    rcases tf (p w) with h | h
    · rw [h]
      refine yG ?_
      exact ⟨A.length - (k + 1), by omega, k + 1, rfl, by omega, by rw [Go.Pd.take_one hw, List.all_append, hall]; simp [h], rfl, rfl⟩
    · rw [h]
      refine yG ?_
      refine OS.read rfl (e_loadm he rfl rfl rfl (part_one rfl rfl)) rfl ?_
      refine yG ?_
      have : A.all p = false := by
        rw [Bool.eq_false_iff]
        intro hh
        have := List.all_eq_true.1 hh w (List.mem_of_getElem? hw)
        rw [h] at this; cases this
      rw [this]
      exact ⟨rfl, rfl⟩
  · have hcc := nlt_of hcc
    obtain rfl : k = A.length := by omega
    refine LS.exit ?_
    refine yG ?_
    rw [List.take_length] at hall
    rw [hall]
    exact ⟨rfl, rfl⟩
end
end Go.Proofs.YtllcbjaajffaeaaGreatDoor
