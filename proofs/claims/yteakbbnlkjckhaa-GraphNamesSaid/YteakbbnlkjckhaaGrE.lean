/- Layer 15: what is ready: put, take. -/
import Derived.Test.YteakbbnlkjckhaaGrD
namespace Go.Am
theorem OS.turnsG {P : Program} {ops rest : List Oper} {o : Oper} {a : Slots} {L : RL} {K : Slots → RL → Prop} {R : Value → RL → Prop} (hw : wantedB ops o a = true) (e : ∀ h, Has h L → ∃ v h₁ L₁, opB P a o h = some (.val v h₁) ∧ Has h₁ L₁ ∧ R v L₁) (k : ∀ v L₁, R v L₁ → ∃ a₁, putAt a o.dst v = some a₁ ∧ OS P ops rest a₁ L₁ K) : OS P ops (o :: rest) a L K :=
  fun h H => let ⟨v, h₁, L₁, e₁, H₁, hR⟩ := e h H; let ⟨_, ep, k⟩ := k v L₁ hR; OQ.val hw e₁ ep (k h₁ H₁)
end Go.Am
namespace Go.Proofs.Yteakbbnlkjckhaa
open Go.Am Go.Gp
set_option linter.unusedVariables false
set_option linter.unusedSimpArgs false
set_option maxRecDepth 20000
set_option maxHeartbeats 4000000
attribute [local irreducible] OS LSr ODS CS
/-- What is ready, in rows of its own. -/
def HW (rr : Nat) (H : List Nat) (Y : RL) : Prop := (H = [] ∧ Y = [(rr, .cells tQ [.slice none 0 0])]) ∨ ∃ r J, Y = st rr r H J []
theorem HW.nil {rr : Nat} : HW rr [] [(rr, .cells tQ [.slice none 0 0])] := .inl ⟨rfl, rfl⟩
theorem st_app {rr r : Nat} {H : List Nat} {J : List Value} {F G : RL} : st rr r H J F ++ G = st rr r H J (F ++ G) := rfl
theorem HW.head {rr : Nat} {H : List Nat} {Y F : RL} (h : HW rr H Y) : ∃ v, Y ++ F = (rr, .cells tQ [v]) :: (Y.tail ++ F) ∧ SV 1 (Y ++ F) v H.length (ns H) := by
  rcases h with ⟨rfl, rfl⟩ | ⟨r, J, rfl⟩
  · exact ⟨.slice none 0 0, rfl, .inl ⟨rfl, rfl, rfl⟩⟩
  · exact ⟨_, rfl, by rw [st_app]; exact st_sv⟩
theorem MPush_ct {rr x : Nat} {H : List Nat} {Y F : RL} (hw : HW rr H Y) (hb : H.length ≤ 1000000) :
    CS Try.prog 59 [.pointer (some ⟨rr, 0, none⟩), .iface tI (iN x)] (Y ++ F) fun v L' => ∃ r, L' = st rr r (H ++ [x]) [] F := by
  suffices h : CS Try.prog 59 [.pointer (some ⟨rr, 0, none⟩), .iface tI (iN x)] (Y ++ F) fun v L' => ∃ L₁, Sub L₁ L' ∧ ∃ r, L₁ = st rr r (H ++ [x]) [] F from h.less fun v L' h => h
  refine CS.mk (fn := Try.f59) rfl rfl rfl rfl ?_
  rcases hw with ⟨rfl, rfl⟩ | ⟨r, J, rfl⟩
  · repeat refine LS.seq ?_
    refine LS.drawn noGo mixed [(0, false), (1, false), (2, false), (3, false), (4, false), (5, false), (6, false), (7, true), (8, true), (9, false), (10, false), (11, true)] rfl rfl (by kernel_rfl) ?_
    show ODS _ _ _ _ _ _ _ ((rr, .cells tQ [.slice none 0 0]) :: F)
    refine yG ?_
    refine ODS.pure rfl rfl (fun _ => rfl) rfl ?_
    refine ODS.fresh rfl rfl (e_new (fun _ => rfl) rfl) (fun _ => rfl) (fun _ => Keep.cons rfl (e_load 1 rfl rfl rfl rfl rfl) Keep.nil) (fun rb => ?_)
    refine ODS.fresh rfl rfl (e_append0 (L := (rb, .cells tI [iN x]) :: (rr, .cells tQ [.slice none 0 0]) :: F) (n := 1) (e := tI) (sz := 1) (bts := 8) (new := [iN x]) rfl rfl rfl rfl (fun h H => (SV.row (sz := 1) (n := 1) (cap := openCap) (List.mem_cons_self ..) rfl : SV 1 _ _ 1 [iN x]).first H) rfl (by omega) (by omega) (by omega)) (fun _ => rfl) (fun _ => Keep.gone rfl Keep.nil) (fun r2 => ?_)
    refine yG ?_
    refine ODS.write rfl rfl (e_store 2 (n := 1) rfl rfl rfl rfl rfl rfl rfl rfl) rfl (Keep.gone rfl Keep.nil) ?_
    refine yG ?_
    refine ⟨_, fun _ _ => rfl, ?_⟩
    exact ⟨st rr r2 [x] [] F, Sub.sums2 [(rb, .cells tI [iN x])] fun f => by simp [st, ns]; omega, r2, rfl⟩
  · repeat refine LS.seq ?_
    refine LS.drawn noGo mixed [(0, false), (1, false), (2, false), (3, false), (4, false), (5, false), (6, false), (7, true), (8, true), (9, false), (10, false), (11, true)] rfl rfl (by kernel_rfl) ?_
    show ODS _ _ _ _ _ _ _ ((rr, .cells tQ [.slice (some ⟨r, 0, none⟩) H.length openCap]) :: (r, .cells tI (ns H ++ J)) :: F)
    refine yG ?_
    refine ODS.pure rfl rfl (fun _ => rfl) rfl ?_
    refine ODS.fresh rfl rfl (e_new (fun _ => rfl) rfl) (fun _ => rfl) (fun _ => Keep.cons rfl (e_load 1 rfl rfl rfl rfl rfl) Keep.nil) (fun rb => ?_)
    refine ODS.fresh rfl rfl (e_appendSV 2 (len := H.length) (off := 0) (L := (rb, .cells tI [iN x]) :: (rr, .cells tQ [.slice (some ⟨r, 0, none⟩) H.length openCap]) :: (r, .cells tI (ns H ++ J)) :: F) (n := 1) (e := tI) (sz := 1) (bts := 8) (new := [iN x]) (old := ns H) (SV.row (sz := 1) (n := 1) (cap := 1) (List.mem_cons_self ..) rfl) rfl rfl rfl rfl (by omega) (by omega) rfl (by rw [cut_of (by simp [ns_len])]; simp [ns_len]) rfl) (fun _ => rfl) (fun _ => Keep.gone rfl Keep.nil) (fun r2 => ?_)
    refine yG ?_
    refine ODS.write rfl rfl (e_store 2 (n := 1) rfl rfl rfl rfl rfl rfl rfl rfl) rfl (Keep.gone rfl Keep.nil) ?_
    refine yG ?_
    refine ⟨_, fun _ _ => rfl, ?_⟩
    exact ⟨st rr r2 (H ++ [x]) [] F, Sub.sums2 [(rb, .cells tI [iN x])] fun f => by simp [st, ns_snoc]; omega, r2, rfl⟩
theorem MPop_ct {rr r : Nat} {H : List Nat} {x : Nat} {J : List Value} {F : RL} (hb : H.length ≤ 1000000) :
    CS Try.prog 58 [.pointer (some ⟨rr, 0, none⟩)] (st rr r (H ++ [x]) J F) fun v L' => v = .iface tI (iN x) ∧ ∃ J', L' = st rr r H J' F := by
  have hsv : SV 1 (st rr r (H ++ [x]) J F) (.slice (some ⟨r, 0, none⟩) (H ++ [x]).length openCap) (H ++ [x]).length (ns (H ++ [x])) := st_sv
  have hl : (H ++ [x]).length = H.length + 1 := by simp
  refine CS.mk (fn := Try.f58) rfl rfl rfl rfl ?_
  unfold st at hsv ⊢
  simp only [hl] at hsv ⊢
  refine yG ?_
  refine OS.callS noGo rfl (fun _ => rfl) (Len_ct hsv) rfl ?_
  refine yG ?_
  rw [show H.length + 1 - 1 = H.length by omega]
  refine yG ?_
  refine OS.at1 (j := H.length) (hsv) (ns_at (k := x) (by simp)) rfl rfl rfl rfl rfl rfl (fun ra0 oa0 rowa0 csa0 ma0 ca0 ga0 => ⟨_, rfl, ?_⟩)
  refine OS.read rfl (e_loadm ma0 ca0 rfl rfl (part_one rfl ga0)) rfl ?_
  refine yG ?_
  refine OS.read rfl (e_slice 1 (l := 0) (u := H.length) rfl rfl rfl rfl rfl bound_nat Try.underlying37 rfl (by omega) (by omega) rfl) rfl ?_
  refine yG ?_
  refine ⟨rfl, [iN x] ++ J, ?_⟩
  simp [st, ns_snoc]
end Go.Proofs.Yteakbbnlkjckhaa
