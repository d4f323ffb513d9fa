/- Layer 11: lists of words that are cut from the front; what is wanted of the machine besides; the parser's row, and the contracts of take, opOf, comparison. -/
import Derived.Test.YtdacddkelagdnaaYl
import Derived.Test.YtdacddkelagdnaaGd
import Derived.Test.YtdacddkelagdnaaEa
namespace Go.Am
set_option linter.unusedVariables false
variable {P : Program}
theorem OS.turns {ops rest : List Oper} {o : Oper} {a : Slots} {L : RL} {K : Slots → RL → Prop} {R : Value → RL → Prop} (hw : wantedB ops o a = true) (e : ∀ h, Has h L → ∃ v h₁ L₁, opB P a o h = some (.val v h₁) ∧ Has h₁ L₁ ∧ R v L₁) (k : ∀ v L₁, R v L₁ → ∃ a₁, putAt a o.dst v = some a₁ ∧ OS P ops rest a₁ L₁ K) : OS P ops (o :: rest) a L K :=
  fun h H => let ⟨v, h₁, L₁, e₁, H₁, hR⟩ := e h H; let ⟨_, ep, k⟩ := k v L₁ hR; OQ.val hw e₁ ep (k h₁ H₁)
/-- A list that may be cut from the front. -/
def WL (e : TypeId) (F : RL) (v : Value) (n : Nat) (cs : List Value) : Prop :=
  (v = .slice none 0 0 ∧ n = 0 ∧ cs = []) ∨ ∃ r off cap row cs₀, v = .slice (some ⟨r, off, none⟩) n cap ∧ (r, row) ∈ F ∧ rdRow row = some cs₀ ∧ cut cs₀ off (n * 1) = some cs ∧ ((cap < openCap ∧ n ≤ cap) ∨ (cap = openCap ∧ ∃ cs₁, row = .cells e cs₁))
section
variable {e : TypeId} {n : Nat} {v : Value} {cs : List Value} {F G L : RL}
theorem WL.sv (h : WL e F v n cs) : SV 1 F v n cs := by
  rcases h with h | ⟨r, off, cap, row, cs₀, h1, h2, h3, h4, _⟩
  · exact .inl h
  · exact .inr ⟨r, off, cap, row, cs₀, h1, h2, h3, h4⟩
theorem WL.form (h : WL e F v n cs) : ∃ A c, v = .slice A n c := by
  rcases h with ⟨rfl, rfl, _⟩ | ⟨r, off, cap, row, cs₀, rfl, _⟩
  · exact ⟨_, _, rfl⟩
  · exact ⟨_, _, rfl⟩
theorem WL.mono (h : WL e F v n cs) (hm : ∀ p, p ∈ F → p ∈ G) : WL e G v n cs := by
  rcases h with h | ⟨r, off, cap, row, cs₀, h1, h2, h3⟩
  · exact .inl h
  · exact .inr ⟨r, off, cap, row, cs₀, h1, hm _ h2, h3⟩
theorem RO.wl (h : RO 1 F v n cs) : WL e F v n cs := by
  rcases h with h | ⟨r, cap, h1, h2, h3, h4, h5⟩
  · exact .inl h
  · exact .inr ⟨r, 0, cap, _, cs, h1, h4, rfl, cut_all h5, .inl ⟨h3, h2⟩⟩
theorem GV.wl (h : GV e 1 F v n cs L) : WL e L v n cs := by
  rcases h with ⟨h1, h2, h3, _⟩ | ⟨r, h1, h2, rfl⟩
  · exact .inl ⟨h1, h2, h3⟩
  · exact .inr ⟨r, 0, openCap, _, cs, h1, List.mem_cons_self .., rfl, cut_all h2, .inr ⟨rfl, _, rfl⟩⟩
/-- A list without its first elements. -/
theorem e_sliceWL {o : Oper} {a : Slots} {t : TypeId} {x lo : Operand} {k : IntKind} (l : Nat) (hs : WL e F v n cs) (hF : ∀ p, p ∈ F → p ∈ L) (ho : o.op = .slice t x (some lo) none none) (hx : aev a x = some v) (hlo : aev a lo = some (.int k (l : Nat)))
    (ht : P.underlying t = some (.slice e)) (hz : sizeB P e = some 1) (hl : l ≤ n) :
    ∃ v', WL e F v' (n - l) (cs.drop l) ∧ ∀ h, Has h L → opB P a o h = some (.val v' h) := by
  have hlo' : optEv a (some lo) = some (some (.int k (l : Nat))) := by simp only [optEv, hlo]
  have hm : optEv a none = some none := rfl
  have bl : boundB (some (.int k (l : Nat))) 0 = some l := bound_nat
  have bu : boundB none n = some n := rfl
  have h2 : Nat.ble l n = true := Nat.ble_eq_true_of_le hl
  rcases hs with ⟨rfl, rfl, rfl⟩ | ⟨r, off, cap, row, cs₀, rfl, hmem, hc, hcut, hcap⟩
  · have hl0 : l = 0 := by omega
    subst hl0
    refine ⟨.slice none 0 0, .inl ⟨rfl, rfl, by simp⟩, fun h _ => ?_⟩
    have hc : Nat.beq 0 openCap = false := beq_false (by decide)
    have h1 : Nat.ble 0 (farB 0 0) = true := rfl
    have h3 : rowOk h e none 0 = true := by unfold rowOk; rw [hc]; rfl
    simp only [opB, ho, hx, hlo', hm, sliceB, ht, bu, bl, hz, h1, h2, h3, Bool.true_and, moved, hc, ret]
  · have hlen := (cut_eq hcut).2.2.1
    have hcut' : cut cs₀ (off + l * 1) ((n - l) * 1) = some (cs.drop l) := by
      have := cut_cut (o := l * 1) (m := (n - l) * 1) hcut (cut_of (by rw [hlen]; omega))
      rw [this, Nat.mul_one, Nat.mul_one, List.take_of_length_le (by rw [List.length_drop, hlen]; omega)]
    rcases hcap with ⟨hne, hcap⟩ | ⟨rfl, cs₁, rfl⟩
    · refine ⟨.slice (some ⟨r, off + l * 1, none⟩) (n - l) (cap - l), .inr ⟨r, _, _, row, cs₀, rfl, hmem, hc, hcut', .inl ⟨by omega, by omega⟩⟩, fun h H => ?_⟩
      have hcb : Nat.beq cap openCap = false := beq_false (by omega)
      have h1 : Nat.ble n (farB n cap) = true := by unfold farB; rw [hcb]; exact Nat.ble_eq_true_of_le hcap
      have h3 : rowOk h e (some ⟨r, off, none⟩) cap = true := by unfold rowOk; rw [hcb]; exact Nat.ble_eq_true_of_le (by omega)
      simp only [opB, ho, hx, hlo', hm, sliceB, ht, bu, bl, hz, h1, h2, h3, Bool.true_and, moved, hcb, ret]
    · refine ⟨.slice (some ⟨r, off + l * 1, none⟩) (n - l) openCap, .inr ⟨r, _, _, _, cs₀, rfl, hmem, hc, hcut', .inr ⟨rfl, _, rfl⟩⟩, fun h H => ?_⟩
      have hcb : Nat.beq openCap openCap = true := beq_true rfl
      have h1 : Nat.ble n (farB n openCap) = true := by unfold farB; rw [hcb]; exact Nat.ble_eq_true_of_le (Nat.le_refl _)
      have hg : getRow h r = some (e, cs₁) := by unfold getRow; rw [H.get _ (hF _ hmem)]
      have h3 : rowOk h e (some ⟨r, off, none⟩) openCap = true := by unfold rowOk; rw [hcb]; simp only [hg, beq_true rfl]
      simp only [opB, ho, hx, hlo', hm, sliceB, ht, bu, bl, hz, h1, h2, h3, Bool.true_and, moved, hcb, ret]
end
theorem OS.sliceWL {e : TypeId} {n : Nat} {v : Value} {cs : List Value} {F L : RL} {ops rest : List Oper} {o : Oper} {a : Slots} {K : Slots → RL → Prop} {t : TypeId} {x lo : Operand} {k : IntKind} (l : Nat) (hs : WL e F v n cs) (hF : ∀ p, p ∈ F → p ∈ L) (hw : wantedB ops o a = true) (ho : o.op = .slice t x (some lo) none none) (hx : aev a x = some v) (hlo : aev a lo = some (.int k (l : Nat)))
    (ht : P.underlying t = some (.slice e)) (hz : sizeB P e = some 1) (hl : l ≤ n) (c : ∀ v', WL e F v' (n - l) (cs.drop l) → ∃ a₁, putAt a o.dst v' = some a₁ ∧ OS P ops rest a₁ L K) : OS P ops (o :: rest) a L K := by
  obtain ⟨v', h1, h2⟩ := e_sliceWL l hs hF ho hx hlo ht hz hl
  obtain ⟨a₁, ep, c⟩ := c v' h1
  exact OS.read hw h2 ep c
/-- Two results, the first of which lies in a cell. -/
theorem res_cell2 (i : Nat) {a : Slots} {L : RL} {x y r off : Nat} {t : TypeId} {row : ARow} {cs : List Value} {v u : Value} (hx : a[x]? = some (.pointer (some ⟨r, off, none⟩))) (hL : L[i]? = some (r, row)) (hc : rdRow row = some cs) (hv : partB P t cs off = some v) (hy : a[y]? = some u) : ∀ h, Has h L → resultsB P a h [.cell x t, .tmp y] = some [v, u] := by
  intro h H
  have hl : loadB P t (.pointer (some ⟨r, off, none⟩)) h = some v := by simp only [loadB, H.read hL hc, hv]
  simp only [resultsB, hx, hl, hy]
end Go.Am
namespace Go.Proofs.Ytdacddkelagdnaa
open Go.Am
set_option linter.unusedVariables false
set_option maxRecDepth 20000
set_option maxHeartbeats 4000000
attribute [local irreducible] OS LSr ODS CS

def strs (ws : List (List UInt8)) : List Value := ws.map fun w => str w
theorem strs_len (ws : List (List UInt8)) : (strs ws).length = ws.length := by simp [strs]
theorem strs_at {ws : List (List UInt8)} {j : Nat} {w : List UInt8} (h : ws[j]? = some w) : (strs ws)[j]? = some (str w) := by simp [strs, h]
theorem strs_snoc (ws : List (List UInt8)) (w : List UInt8) : strs (ws ++ [w]) = strs ws ++ [str w] := by simp [strs]
theorem strs_drop (ws : List (List UInt8)) (k : Nat) : (strs ws).drop k = strs (ws.drop k) := by simp [strs]
theorem strs_app (x y : List (List UInt8)) : strs (x ++ y) = strs x ++ strs y := by simp [strs]
theorem strs_one : ∀ ws : List (List UInt8), allOne (strs ws) = true
  | [] => rfl
  | w :: ws => by simp only [strs, List.map_cons, allOne]; exact strs_one ws
theorem ext_list {A : Type} {l : List A} {k : Nat} (h : k < l.length) : ∃ x, l[k]? = some x := ⟨_, List.getElem?_eq_getElem h⟩
/-- Words that are left. -/
abbrev Wd (G : RL) (s : Value) (w : List W) : Prop := WL 9 G s w.length (strs w)
abbrev PRow (s : Value) (d : Nat) : ARow := .cells 55 [s, .int .i64 (d : Nat)]

theorem opOf_ct {L : RL} (x : W) : CS Try.prog 55 [str x] L fun v L' => v = .int .i64 (opN x : Nat) ∧ L' = L := by
  refine CS.mk (fn := Try.f55) rfl rfl rfl rfl ?_
  by_cases h1 : x = wSame
  · subst h1
    refine yG ?_
    exact ⟨rfl, rfl⟩
  by_cases h2 : x = wOther
  · subst h2
    refine yG ?_
    exact ⟨rfl, rfl⟩
  by_cases h3 : x = wLike
  · subst h3
    refine yG ?_
    exact ⟨rfl, rfl⟩
  have b1 : bytesEq x [61, 61] = false := by rw [beq_bytes]; exact decide_eq_false h1
  have b2 : bytesEq x [33, 61] = false := by rw [beq_bytes]; exact decide_eq_false h2
  have b3 : bytesEq x [126] = false := by rw [beq_bytes]; exact decide_eq_false h3
  refine yG ?_
  refine ⟨?_, rfl⟩
  unfold opN
  rw [if_neg h1, if_neg h2, if_neg h3]; rfl
theorem take_no {rp d : Nat} {s : Value} {w : List W} {x : W} {G F : RL} (hs : Wd G s w) (hG : ∀ p, p ∈ G → p ∈ F) (h : w.head? ≠ some x) : CS Try.prog 42 [ptr rp, str x] ((rp, PRow s d) :: F) fun v L' => v = .bool false ∧ L' = (rp, PRow s d) :: F := by
  have hv : SV 1 ((rp, PRow s d) :: F) s w.length (strs w) := (hs.mono hG).sv.cons
  refine CS.mk (fn := Try.f42) rfl rfl rfl rfl ?_
  cases w with
  | nil =>
    have hb : ieqB ((([] : List W).length : Nat) : Int) 0 = true := rfl
    refine yG ?_
    exact ⟨rfl, rfl⟩
  | cons y r =>
    have hb : ieqB (((y :: r).length : Nat) : Int) 0 = false := by rw [ieqB_eq]; simp; omega
    have hb2 : (!bytesEq y x) = true := by rw [beq_bytes]; simpa using h
    refine yG ?_
    refine OS.at1 (j := 0) (hv) (strs_at (w := y) rfl) rfl rfl rfl rfl rfl rfl (fun ra0 oa0 rowa0 csa0 ma0 ca0 ga0 => ⟨_, rfl, ?_⟩)
    refine OS.read rfl (e_loadm ma0 ca0 rfl rfl (part_one rfl ga0)) rfl ?_
    refine yG ?_
    exact ⟨rfl, rfl⟩
theorem take_yes {rp d : Nat} {s : Value} {r : List W} {x : W} {G F : RL} (hs : Wd G s (x :: r)) (hG : ∀ p, p ∈ G → p ∈ F) : CS Try.prog 42 [ptr rp, str x] ((rp, PRow s d) :: F) fun v L' => ∃ s', v = .bool true ∧ L' = (rp, PRow s' d) :: F ∧ Wd G s' r := by
  have hv : SV 1 ((rp, PRow s d) :: F) s (x :: r).length (strs (x :: r)) := (hs.mono hG).sv.cons
  refine CS.mk (fn := Try.f42) rfl rfl rfl rfl ?_
  have hb : ieqB (((x :: r).length : Nat) : Int) 0 = false := by rw [ieqB_eq]; simp; omega
  have hb2 : (!bytesEq x x) = false := by rw [beq_bytes]; simp
  refine yG ?_
  refine OS.at1 (j := 0) (hv) (strs_at (w := x) rfl) rfl rfl rfl rfl rfl rfl (fun ra0 oa0 rowa0 csa0 ma0 ca0 ga0 => ⟨_, rfl, ?_⟩)
  refine OS.read rfl (e_loadm ma0 ca0 rfl rfl (part_one rfl ga0)) rfl ?_
  refine yG ?_
  refine OS.sliceWL 1 hs (fun p hp => List.mem_cons_of_mem _ (hG p hp)) rfl rfl rfl rfl rfl rfl (by simp) (fun s' hs' => ?_)
  obtain ⟨A, c, rfl⟩ := hs'.form
  refine ⟨_, rfl, ?_⟩
  refine yG ?_
  exact ⟨_, rfl, rfl, hs'⟩
/-- A comparison. -/
abbrev cmpV (a : W) (o : Nat) (b : W) : Value := .agg #[str a, .int .i64 (o : Nat), str b]
theorem comparison_yes {rp d o : Nat} {s : Value} {w r : List W} {a b : W} {G F : RL} (hs : Wd G s w) (hG : ∀ p, p ∈ G → p ∈ F) (h : cmpAt w = some (a, o, b, r)) :
    CS Try.prog 49 [ptr rp] ((rp, PRow s d) :: F) fun v L' => ∃ s', v = .tuple #[cmpV a o b, .bool true] ∧ L' = (rp, PRow s' d) :: F ∧ Wd G s' r := by
  obtain ⟨u, rfl, rfl, ho⟩ := cmpAt_some h
  suffices hh : CS Try.prog 49 [ptr rp] ((rp, PRow s d) :: F) fun v L' => ∃ s' Y, v = .tuple #[cmpV a (opN u) b, .bool true] ∧ L' = Y ++ (rp, PRow s' d) :: F ∧ Wd G s' r from
    hh.less fun v L' ⟨s', Y, h1, h2, h3⟩ => ⟨(rp, PRow s' d) :: F, by rw [h2]; exact ⟨Y, List.perm_append_comm⟩, s', h1, rfl, h3⟩
  refine CS.mk (fn := Try.f49) rfl rfl rfl rfl ?_
  have hv : ∀ X, SV 1 (X ++ (rp, PRow s d) :: F) s (a :: u :: b :: r).length (strs (a :: u :: b :: r)) := fun X => ((hs.mono hG).sv.cons).mono fun p hp => List.mem_append_right _ hp
  repeat refine LS.seq ?_
  refine LS.region rfl ?_
  refine OS.fresh rfl (e_new (fun _ => rfl) rfl) (fun _ => rfl) (fun rc => ?_)
  refine yG ?_
  have hv1 := hv [(rc, .cells 66 [str [], .int .i64 0, str []])]
  have hb : (!ileB 3 ((((a :: u :: b :: r).length : Nat) : Int))) = false := by rw [ileB_eq]; simp; omega
  refine yG ?_
  refine OS.at1 (j := 1) (hv1) (strs_at (w := u) rfl) rfl rfl rfl rfl rfl rfl (fun ra0 oa0 rowa0 csa0 ma0 ca0 ga0 => ⟨_, rfl, ?_⟩)
  refine OS.read rfl (e_loadm ma0 ca0 rfl rfl (part_one rfl ga0)) rfl ?_
  refine yG ?_
  refine OS.call noGo rfl (fun _ => rfl) ((opOf_ct u).mono ?_)
  rintro v L' ⟨rfl, rfl⟩
  have hb2 : ieqB ((opN u : Nat) : Int) 0 = false := by rw [ieqB_eq]; simp; omega
  refine yG ?_
  repeat refine LS.seq ?_
  refine LS.drawn noGo mixed [(0, false), (1, false), (2, false), (3, false), (4, false), (5, false), (6, false), (7, false), (8, false), (9, false), (10, false), (11, false), (12, false), (13, false), (14, true), (15, true)] rfl rfl (by kernel_rfl) ?_
  refine yG ?_
  refine ODS.at1 (j := 0) (hv1) (strs_at (w := a) rfl) rfl rfl rfl rfl rfl rfl rfl (fun ra0 oa0 rowa0 csa0 ma0 ca0 ga0 => ⟨_, rfl, ?_⟩)
  refine ODS.read rfl rfl (e_loadm ma0 ca0 rfl rfl (part_one rfl ga0)) rfl ?_
  refine yG ?_
  refine ODS.at1 (j := 2) (hv1) (strs_at (w := b) rfl) rfl rfl rfl rfl rfl rfl rfl (fun ra2 oa2 rowa2 csa2 ma2 ca2 ga2 => ⟨_, rfl, ?_⟩)
  refine ODS.read rfl rfl (e_loadm ma2 ca2 rfl rfl (part_one rfl ga2)) rfl ?_
  refine yG ?_
  refine ODS.fresh rfl rfl (e_new (fun _ => rfl) rfl) (fun _ => rfl) (fun _ => (Keep.cons rfl (e_loadm (List.mem_cons_of_mem _ ma2) ca2 rfl rfl (part_one rfl ga2)) (Keep.cons rfl (e_load 2 rfl rfl rfl rfl rfl) (Keep.cons rfl (e_loadm (List.mem_cons_of_mem _ ma0) ca0 rfl rfl (part_one rfl ga0)) (Keep.cons rfl (e_load 2 rfl rfl rfl rfl rfl) Keep.nil))))) (fun r5 => ?_)
  refine ODS.write rfl rfl (e_store 0 rfl rfl rfl rfl rfl rfl rfl rfl) rfl (Keep.gone rfl (Keep.gone rfl (Keep.gone rfl (Keep.gone rfl Keep.nil)))) ?_
  refine yG ?_
  refine OS.sliceWL 3 hs (fun p hp => List.mem_cons_of_mem _ (List.mem_cons_of_mem _ (List.mem_cons_of_mem _ (hG p hp)))) rfl rfl rfl rfl rfl rfl (by simp) (fun s' hs' => ?_)
  obtain ⟨A, c, rfl⟩ := hs'.form
  refine ⟨_, rfl, ?_⟩
  refine yG ?_
  refine LS.ret ⟨_, res_cell2 1 rfl rfl rfl rfl rfl, ?_⟩
  exact ⟨_, [_, _], rfl, rfl, hs'⟩
theorem comparison_no {rp d : Nat} {s : Value} {w : List W} {G F : RL} (hs : Wd G s w) (hG : ∀ p, p ∈ G → p ∈ F) (h : cmpAt w = none) :
    CS Try.prog 49 [ptr rp] ((rp, PRow s d) :: F) fun v L' => v = .tuple #[cmpV [] 0 [], .bool false] ∧ L' = (rp, PRow s d) :: F := by
  suffices hh : CS Try.prog 49 [ptr rp] ((rp, PRow s d) :: F) fun v L' => ∃ Y, v = .tuple #[cmpV [] 0 [], .bool false] ∧ L' = Y ++ (rp, PRow s d) :: F from
    hh.less fun v L' ⟨Y, h1, h2⟩ => ⟨(rp, PRow s d) :: F, by rw [h2]; exact ⟨Y, List.perm_append_comm⟩, h1, rfl⟩
  have hv : ∀ X, SV 1 (X ++ (rp, PRow s d) :: F) s w.length (strs w) := fun X => ((hs.mono hG).sv.cons).mono fun p hp => List.mem_append_right _ hp
  refine CS.mk (fn := Try.f49) rfl rfl rfl rfl ?_
  repeat refine LS.seq ?_
  refine LS.region rfl ?_
  refine OS.fresh rfl (e_new (fun _ => rfl) rfl) (fun _ => rfl) (fun rc => ?_)
  refine yG ?_
  have hv1 := hv [(rc, .cells 66 [str [], .int .i64 0, str []])]
  by_cases h3 : w.length < 3
  · have hb : (!ileB 3 ((w.length : Nat) : Int)) = true := by rw [ileB_eq]; simp; omega
    refine yG ?_
    refine LS.ret ⟨_, res_cell2 0 rfl rfl rfl rfl rfl, ?_⟩
    exact ⟨[_], rfl, rfl⟩
  · have hb : (!ileB 3 ((w.length : Nat) : Int)) = false := by rw [ileB_eq]; simp; omega
    match w, h3, h with
    | a :: u :: b :: r, _, h =>
      have hu : opN u = 0 := by
        by_cases hu : opN u = 0
        · exact hu
        · rw [cmpAt_of hu] at h; cases h
      refine yG ?_
      refine OS.at1 (j := 1) (hv1) (strs_at (w := u) rfl) rfl rfl rfl rfl rfl rfl (fun ra0 oa0 rowa0 csa0 ma0 ca0 ga0 => ⟨_, rfl, ?_⟩)
      refine OS.read rfl (e_loadm ma0 ca0 rfl rfl (part_one rfl ga0)) rfl ?_
      refine yG ?_
      refine OS.call noGo rfl (fun _ => rfl) ((opOf_ct u).mono ?_)
      rintro v L' ⟨rfl, rfl⟩
      rw [hu]
      refine yG ?_
      refine LS.ret ⟨_, res_cell2 0 rfl rfl rfl rfl rfl, ?_⟩
      exact ⟨[_], rfl, rfl⟩
end Go.Proofs.Ytdacddkelagdnaa
