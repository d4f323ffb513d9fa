/- Layer 15: the law GraphNames. -/
import Derived.Test.YteakbbnlkjckhaaGrR
namespace Go.Gp
set_option linter.unusedVariables false
set_option linter.unusedSimpArgs false
theorem e_cyc : sortE [[2], [3], [1], [0, 2]] = 64 := by decide +kernel
theorem e_twice : sortE [[1, 1, 2], [], []] = 0 ∧ sortZ [[1, 1, 2], [], []] = [1, 2, 0] := by decide +kernel
theorem e_far : sortE [[1]] = 1 := by decide +kernel
theorem e_neg : sortE [[-1]] = 1 := by decide +kernel
theorem e_self : sortE [[0]] = 64 := by decide +kernel
theorem e_none : sortE [] = 0 ∧ sortZ [] = [] := by decide +kernel
theorem noPath {M : Nd} (hM : Ok M) (h : ∀ i, Path M i i → False) : (topo M).length = M.length := by
  have h1 := topo_len M
  rcases Nat.lt_or_ge (topo M).length M.length with hl | hl
  · obtain ⟨i, hi⟩ := (topo_cycle hM).1 hl
    exact (h i hi).elim
  · omega
theorem sort_of {Z : List (List Int)} (hm : may Z = true) (h : ∀ i, Path (nat Z) i i → False) : sortE Z = 0 ∧ (sortZ Z).length = Z.length := by
  have hl := noPath (nat_ok hm) h
  have e : sortE Z = 0 := by unfold sortE; rw [hm, if_pos rfl, if_neg (by omega)]
  exact ⟨e, by unfold sortZ; rw [if_pos e, hl, nat_len]⟩
theorem may_empty (n : Nat) : may (List.replicate n []) = decide (n ≤ 4096) := by
  have h1 : tot (List.replicate n ([] : List Int)) = 0 := by simp [tot]
  have h2 : (List.replicate n ([] : List Int)).all (fun w => w.all (isT (List.replicate n ([] : List Int)).length)) = true := by
    rw [List.all_eq_true]
    intro w hw
    rw [List.eq_of_mem_replicate hw]; rfl
  unfold may
  rw [h1, h2, List.length_replicate]
  simp
theorem sort_empty {n : Nat} (hn : n ≤ 4096) : sortE (List.replicate n []) = 0 ∧ (sortZ (List.replicate n [])).length = n := by
  have h := sort_of (Z := List.replicate n []) (by rw [may_empty]; exact decide_eq_true hn) fun i hp => by
    have hnd : ∀ j, nd (nat (List.replicate n [])) j = [] := fun j => by
      unfold nd nat
      rw [List.map_replicate, List.getD_eq_getElem?_getD, List.getElem?_replicate]
      split <;> rfl
    cases hp with
    | one h => rw [hnd] at h; cases h
    | more h _ => rw [hnd] at h; cases h
  rw [List.length_replicate] at h
  exact h
theorem sort_many4 {n : Nat} (hn : 4096 < n) : sortE (List.replicate n []) = 1 := by
  unfold sortE
  rw [may_empty, decide_eq_false (by omega)]; rfl
theorem may_zero (m : Nat) : may [[], List.replicate m 0] = decide (m ≤ 65536) := by
  have h1 : tot [[], List.replicate m (0 : Int)] = m := by simp [tot]
  have h2 : ([[], List.replicate m (0 : Int)] : List (List Int)).all (fun w => w.all (isT 2)) = true := by
    rw [List.all_eq_true]
    intro w hw
    rcases List.mem_cons.1 hw with rfl | hw
    · rfl
    · rcases List.mem_cons.1 hw with rfl | hw
      · rw [List.all_eq_true]
        intro k hk
        rw [List.eq_of_mem_replicate hk]; rfl
      · cases hw
  unfold may
  rw [h1]
  show (decide (2 ≤ 4096) && (decide (m ≤ 65536) && ([[], List.replicate m (0 : Int)] : List (List Int)).all (fun w => w.all (isT 2)))) = _
  rw [h2]
  simp
theorem sort_zero {m : Nat} (hm : m ≤ 65536) : sortE [[], List.replicate m 0] = 0 := by
  refine (sort_of (by rw [may_zero]; exact decide_eq_true hm) fun i hp => ?_).1
  have hnd : ∀ j k, k ∈ nd (nat [[], List.replicate m 0]) j → j = 1 ∧ k = 0 := fun j k hk => by
    unfold nd nat at hk
    match j with
    | 0 => simp at hk
    | 1 =>
      simp only [List.map_cons, List.map_replicate] at hk
      have := List.eq_of_mem_replicate (show k ∈ List.replicate m (Int.toNat 0) from hk)
      exact ⟨rfl, this⟩
    | j + 2 => simp at hk
  have key : ∀ {a b : Nat}, Path (nat [[], List.replicate m 0]) a b → a = 1 ∧ b = 0 := by
    intro a b h
    induction h with
    | one h => exact hnd _ _ h
    | more h _ ih => exact ⟨(hnd _ _ h).1, ih.2⟩
  have := key hp
  omega
theorem sort_over {m : Nat} (hm : 65536 < m) : sortE [[], List.replicate m 0] = 1 := by
  unfold sortE
  rw [may_zero, decide_eq_false (by omega)]; rfl
end Go.Gp
namespace Go.Proofs.Yteakbbnlkjckhaa
open Go.Am Go.Gp
set_option linter.unusedVariables false
set_option linter.unusedSimpArgs false
set_option maxRecDepth 20000
set_option maxHeartbeats 4000000
attribute [local irreducible] OS LSr ODS CS
theorem ok_cyc : okT [[2], [3], [1], [0, 2]] 1 = true := by decide +kernel
theorem below_cyc : belowZ [[2], [3], [1], [0, 2]] 1 = [0, 1, 2, 3] := by
  unfold belowZ
  rw [if_pos ok_cyc]
  show below [[2], [3], [1], [0, 2]] 1 = [0, 1, 2, 3]
  rw [← picks_below (M := [[2], [3], [1], [0, 2]]) (b := fun _ => true) fun k hk => ⟨fun _ => ?_, fun _ => rfl⟩]
  · rfl
  · have h13 : 3 ∈ nd [[2], [3], [1], [0, 2]] 1 := by decide
    have h30 : 0 ∈ nd [[2], [3], [1], [0, 2]] 3 := by decide
    have h32 : 2 ∈ nd [[2], [3], [1], [0, 2]] 3 := by decide
    have h21 : 1 ∈ nd [[2], [3], [1], [0, 2]] 2 := by decide
    match k, hk with
    | 0, _ => exact .more h13 (.one h30)
    | 1, _ => exact .more h13 (.more h32 (.one h21))
    | 2, _ => exact .more h13 (.one h32)
    | 3, _ => exact .one h13
theorem nl_of {L : RL} {rc : Nat} (rows : List (Nat × List Int)) (h1 : ∀ x, x ∈ rows → (x.1, ARow.cells tI (zs x.2)) ∈ L) (h2 : (rc, ARow.cells tN (rows.map fun x => .slice (some ⟨x.1, 0, none⟩) x.2.length x.2.length)) ∈ L) : NL L (.slice (some ⟨rc, 0, none⟩) rows.length rows.length) (zv (rows.map (·.2))) := by
  refine ⟨_, by rw [zv_len, List.length_map]; exact SV.row h2 (by simp), fun i w hw => ?_⟩
  rw [zv, List.getElem?_map, List.getElem?_map] at hw
  obtain ⟨y, hy, rfl⟩ := Option.map_eq_some_iff.1 hw
  obtain ⟨x, hx, rfl⟩ := Option.map_eq_some_iff.1 hy
  refine ⟨_, by rw [List.getElem?_map, hx]; rfl, ?_⟩
  rw [zs_len]
  exact SV.row (h1 x (List.mem_of_getElem? hx)) (by simp [zs_len])
theorem nl_make {L : RL} {r n : Nat} (h : (r, ARow.cells tN (repL [.slice none 0 0] n)) ∈ L) : NL L (.slice (some ⟨r, 0, none⟩) n n) (zv (List.replicate n [])) := by
  have e : repL [.slice none 0 0] n = List.replicate n (.slice none 0 0) := by simp [repL]
  rw [e] at h
  refine ⟨_, by rw [zv_len, List.length_replicate]; exact SV.row h (by simp), fun i w hw => ?_⟩
  rw [zv, List.map_replicate, List.getElem?_replicate] at hw
  split at hw
  · rename_i hi
    simp only [Option.some.injEq] at hw
    subst hw
    exact ⟨.slice none 0 0, by rw [List.getElem?_replicate, if_pos hi], .inl ⟨rfl, rfl, rfl⟩⟩
  · cases hw
theorem nl_two {L : RL} {r0 rc : Nat} {b : Value} {w : List Int} (h0 : (r0, ARow.cells tI []) ∈ L) (hc : (rc, ARow.cells tN [.slice (some ⟨r0, 0, none⟩) 0 0, b]) ∈ L) (hb : SV 1 L b w.length (zs w)) : NL L (.slice (some ⟨rc, 0, none⟩) 2 2) (zv [[], w]) := by
  refine ⟨_, SV.row hc rfl, fun i x hx => ?_⟩
  match i with
  | 0 => simp [zv] at hx; subst hx; exact ⟨_, rfl, SV.row h0 rfl⟩
  | 1 => simp [zv] at hx; subst hx; rw [zs_len]; exact ⟨_, rfl, hb⟩
  | i + 2 => simp [zv] at hx
theorem zs_zero (m : Nat) : repL [iN 0] m = zs (List.replicate m 0) := by simp [repL, zs]
theorem sv_many {L : RL} {r m : Nat} (h : (r, ARow.cells tI (repL [iN 0] m)) ∈ L) : SV 1 L (.slice (some ⟨r, 0, none⟩) m m) (List.replicate m (0 : Int)).length (zs (List.replicate m 0)) := by
  rw [zs_zero] at h
  rw [List.length_replicate]
  exact SV.row h (by rw [zs_len]; simp)
theorem sv_many1 {L : RL} {r m : Nat} (h : (r, ARow.cells tI (repL [iN 0] (m + 1))) ∈ L) : SV 1 L (.slice (some ⟨r, 1, none⟩) m m) (List.replicate m (0 : Int)).length (zs (List.replicate m 0)) := by
  rw [zs_zero] at h
  rw [List.length_replicate]
  refine .inr ⟨r, 1, m, _, _, rfl, h, rfl, ?_⟩
  rw [cut_of (by rw [zs_len]; simp; omega)]
  simp [zs]
theorem Sort_e {L : RL} {v : Value} {Z : List (List Int)} {e : Nat} {l : List Nat} (he : sortE Z = e) (hl : sortZ Z = l) (hv : NL L v (zv Z)) : CS Try.prog 10 [v] L (Res L l e) := by
  rw [← he, ← hl]; exact Sort_ct hv
theorem Levels_e {L : RL} {v : Value} {Z : List (List Int)} {e : Nat} (he : sortE Z = e) (hv : NL L v (zv Z)) : CS Try.prog 12 [v] L (Res L (levZ Z) e) := by
  rw [← he]; exact Levels_ct hv
theorem Below_e {L : RL} {v : Value} {Z : List (List Int)} {l : List Nat} {i : Int} {b : Bool} (hb : okT Z i = b) (hl : belowZ Z i = l) (hv : NL L v (zv Z)) : CS Try.prog 13 [v, iZ i] L (Res L l (if b then 0 else 1)) := by
  rw [← hb, ← hl]; exact Below_ct hv i
theorem Above_e {L : RL} {v : Value} {Z : List (List Int)} {i : Int} (hb : okT Z i = false) (hv : NL L v (zv Z)) : CS Try.prog 14 [v, iZ i] L (Res L [] 1) := by
  have h := Above_ct hv i
  rw [hb, show aboveZ Z i = [] by unfold aboveZ; rw [hb]; rfl] at h
  exact h
theorem nl_nil {L : RL} : NL L (.slice none 0 0) (zv []) := ⟨[], .inl ⟨rfl, rfl, rfl⟩, fun i w h => by simp [zv] at h⟩
theorem namesLaw_ct {L : RL} : CS Try.prog 3 [] L fun u _ => u = .bool true := by
  have aw : ∀ L : RL, CS Try.prog 9 [] L fun v L' => v = .bool true ∧ L' = L := fun L => works_ct
  have tl : ∀ {Y X L2 : RL} {p : Nat × ARow}, L2 = Y ++ X → p ∈ X → p ∈ L2 := fun h hp => by rw [h]; exact List.mem_append_right _ hp
  have hd : ∀ {Y X L2 : RL} {p : Nat × ARow}, L2 = Y ++ X → p ∈ Y → p ∈ L2 := fun h hp => by rw [h]; exact List.mem_append_left _ hp
  refine CS.mk (fn := Try.f3) rfl rfl rfl rfl ?_
  refine yG ?_
  refine OS.callS noGo rfl (fun _ => rfl) (aw _) rfl ?_
  refine yG ?_
  refine OS.fresh rfl (e_new (fun _ => rfl) rfl) (fun _ => rfl) (fun r0 => ?_)
  refine OS.fresh rfl (e_new (fun _ => rfl) rfl) (fun _ => rfl) (fun r1 => ?_)
  refine OS.fresh rfl (e_new (fun _ => rfl) rfl) (fun _ => rfl) (fun r2 => ?_)
  refine OS.fresh rfl (e_new (fun _ => rfl) rfl) (fun _ => rfl) (fun r3 => ?_)
  refine OS.fresh rfl (e_new (fun _ => rfl) rfl) (fun _ => rfl) (fun rc => ?_)
  have hc0 : NL ((rc, ARow.cells tN [.slice (some ⟨r0, 0, none⟩) 1 1, .slice (some ⟨r1, 0, none⟩) 1 1, .slice (some ⟨r2, 0, none⟩) 1 1, .slice (some ⟨r3, 0, none⟩) 2 2]) :: (r3, .cells tI [iZ 0, iZ 2]) :: (r2, .cells tI [iZ 1]) :: (r1, .cells tI [iZ 3]) :: (r0, .cells tI [iZ 2]) :: L) (.slice (some ⟨rc, 0, none⟩) 4 4) (zv [[2], [3], [1], [0, 2]]) := nl_of [(r0, [2]), (r1, [3]), (r2, [1]), (r3, [0, 2])] (fun x hx => by
    simp only [List.mem_cons, List.not_mem_nil, or_false] at hx
    rcases hx with rfl | rfl | rfl | rfl <;> repeat (first | exact List.mem_cons_self .. | refine List.mem_cons_of_mem _ ?_)) (List.mem_cons_self ..)
  refine yG ?_
  refine OS.call noGo rfl (fun _ => rfl) ((Sort_e e_cyc rfl hc0).mono ?_)
  rintro u L1 ⟨Y1, A1, c1, hL1, rfl, hs1⟩
  have hc1 := hc0.mono fun p hp => tl hL1 hp
  refine yG ?_
  refine OS.fresh rfl (e_new (fun _ => rfl) rfl) (fun _ => rfl) (fun s0 => ?_)
  refine OS.fresh rfl (e_new (fun _ => rfl) rfl) (fun _ => rfl) (fun s1 => ?_)
  refine OS.fresh rfl (e_new (fun _ => rfl) rfl) (fun _ => rfl) (fun s2 => ?_)
  refine OS.fresh rfl (e_new (fun _ => rfl) rfl) (fun _ => rfl) (fun sc => ?_)
  refine OS.call noGo rfl (fun _ => rfl) ((Sort_e e_twice.1 e_twice.2 (show NL _ _ (zv [[1, 1, 2], [], []]) from nl_of [(s0, [1, 1, 2]), (s1, []), (s2, [])] (fun x hx => by simp only [List.mem_cons, List.not_mem_nil, or_false] at hx; (rcases hx with rfl | rfl | rfl <;> repeat (first | exact List.mem_cons_self .. | refine List.mem_cons_of_mem _ ?_))) (List.mem_cons_self ..))).mono ?_)
  rintro u L2 ⟨Y2, A2, c2, hL2, rfl, hs2⟩
  have up2 : ∀ p, p ∈ L1 → p ∈ L2 := fun p hp => tl hL2 (by repeat (first | exact hp | refine List.mem_cons_of_mem _ ?_))
  have hs2' := hs2.mono (L' := L2) fun p hp => hd hL2 hp
  have hc2 := hc1.mono up2
  refine yG ?_
  refine OS.fresh rfl (e_new (fun _ => rfl) rfl) (fun _ => rfl) (fun t0 => ?_)
  refine OS.call noGo rfl (fun _ => rfl) ((IntsN_ct (xs := [1, 2, 0]) (hs2'.cons) (SV.row (List.mem_cons_self ..) rfl) (by decide)).mono ?_)
  rintro u L3 ⟨rfl, hL3⟩
  have up3 : ∀ p, p ∈ L2 → p ∈ L3 := fun p hp => by rw [hL3]; exact List.mem_cons_of_mem _ hp
  have hc3 := hc2.mono up3
  refine yG ?_
  refine OS.call noGo rfl (fun _ => rfl) ((Levels_e e_cyc hc3).mono ?_)
  rintro u L4 ⟨Y4, A4, c4, hL4, rfl, hs4⟩
  have up4 : ∀ p, p ∈ L3 → p ∈ L4 := fun p hp => tl hL4 (by repeat (first | exact hp | refine List.mem_cons_of_mem _ ?_))
  refine yG ?_
  have hc4 := hc3.mono up4
  refine OS.call noGo rfl (fun _ => rfl) ((Below_e ok_cyc below_cyc hc4).mono ?_)
  rintro u L5 ⟨Y5, A5, c5, hL5, rfl, hs5⟩
  have up5 : ∀ p, p ∈ L4 → p ∈ L5 := fun p hp => tl hL5 (by repeat (first | exact hp | refine List.mem_cons_of_mem _ ?_))
  refine yG ?_
  have hs5' := hs5.mono (L' := L5) fun p hp => hd hL5 hp
  refine OS.fresh rfl (e_new (fun _ => rfl) rfl) (fun _ => rfl) (fun a0 => ?_)
  refine OS.fresh rfl (e_new (fun _ => rfl) rfl) (fun _ => rfl) (fun ac => ?_)
  refine OS.call noGo rfl (fun _ => rfl) ((Sort_e e_far rfl (show NL _ _ (zv [[1]]) from nl_of [(a0, [1])] (fun x hx => by simp only [List.mem_cons, List.not_mem_nil, or_false] at hx; (subst hx; repeat (first | exact List.mem_cons_self .. | refine List.mem_cons_of_mem _ ?_))) (List.mem_cons_self ..))).mono ?_)
  rintro u L6 ⟨Y6, A6, c6, hL6, rfl, hs6⟩
  have up6 : ∀ p, p ∈ L5 → p ∈ L6 := fun p hp => tl hL6 (by repeat (first | exact hp | refine List.mem_cons_of_mem _ ?_))
  refine yG ?_
  refine OS.fresh rfl (e_new (fun _ => rfl) rfl) (fun _ => rfl) (fun b0 => ?_)
  refine OS.fresh rfl (e_new (fun _ => rfl) rfl) (fun _ => rfl) (fun bc => ?_)
  refine OS.call noGo rfl (fun _ => rfl) ((Sort_e e_neg rfl (show NL _ _ (zv [[-1]]) from nl_of [(b0, [-1])] (fun x hx => by simp only [List.mem_cons, List.not_mem_nil, or_false] at hx; (subst hx; repeat (first | exact List.mem_cons_self .. | refine List.mem_cons_of_mem _ ?_))) (List.mem_cons_self ..))).mono ?_)
  rintro u L7 ⟨Y7, A7, c7, hL7, rfl, hs7⟩
  have up7 : ∀ p, p ∈ L6 → p ∈ L7 := fun p hp => tl hL7 (by repeat (first | exact hp | refine List.mem_cons_of_mem _ ?_))
  refine yG ?_
  refine OS.fresh rfl (e_new (fun _ => rfl) rfl) (fun _ => rfl) (fun d0 => ?_)
  refine OS.fresh rfl (e_new (fun _ => rfl) rfl) (fun _ => rfl) (fun dc => ?_)
  refine OS.call noGo rfl (fun _ => rfl) ((Sort_e e_self rfl (show NL _ _ (zv [[0]]) from nl_of [(d0, [0])] (fun x hx => by simp only [List.mem_cons, List.not_mem_nil, or_false] at hx; (subst hx; repeat (first | exact List.mem_cons_self .. | refine List.mem_cons_of_mem _ ?_))) (List.mem_cons_self ..))).mono ?_)
  rintro u L8 ⟨Y8, A8, c8, hL8, rfl, hs8⟩
  have up8 : ∀ p, p ∈ L7 → p ∈ L8 := fun p hp => tl hL8 (by repeat (first | exact hp | refine List.mem_cons_of_mem _ ?_))
  refine yG ?_
  refine OS.call noGo rfl (fun _ => rfl) ((Sort_e e_none.1 e_none.2 nl_nil).mono ?_)
  rintro u L9 ⟨Y9, A9, c9, hL9, rfl, hs9⟩
  have up9 : ∀ p, p ∈ L8 → p ∈ L9 := fun p hp => tl hL9 (by repeat (first | exact hp | refine List.mem_cons_of_mem _ ?_))
  refine yG ?_
  refine OS.call noGo rfl (fun _ => rfl) ((Below_e (b := false) (by decide +kernel) rfl nl_nil).mono ?_)
  rintro u L10 ⟨Y10, A10, c10, hL10, rfl, hs10⟩
  have up10 : ∀ p, p ∈ L9 → p ∈ L10 := fun p hp => tl hL10 (by repeat (first | exact hp | refine List.mem_cons_of_mem _ ?_))
  refine yG ?_
  refine OS.fresh rfl (e_new (fun _ => rfl) rfl) (fun _ => rfl) (fun f0 => ?_)
  refine OS.fresh rfl (e_new (fun _ => rfl) rfl) (fun _ => rfl) (fun fc => ?_)
  refine OS.call noGo rfl (fun _ => rfl) ((Above_e (by decide +kernel) (show NL _ _ (zv [[]]) from nl_of [(f0, [])] (fun x hx => by simp only [List.mem_cons, List.not_mem_nil, or_false] at hx; (subst hx; repeat (first | exact List.mem_cons_self .. | refine List.mem_cons_of_mem _ ?_))) (List.mem_cons_self ..))).mono ?_)
  rintro u L11 ⟨Y11, A11, c11, hL11, rfl, hs11⟩
  have up11 : ∀ p, p ∈ L10 → p ∈ L11 := fun p hp => tl hL11 (by repeat (first | exact hp | refine List.mem_cons_of_mem _ ?_))
  refine yG ?_
  refine OS.fresh rfl (e_new (fun _ => rfl) rfl) (fun _ => rfl) (fun g0 => ?_)
  refine OS.fresh rfl (e_new (fun _ => rfl) rfl) (fun _ => rfl) (fun gc => ?_)
  refine OS.call noGo rfl (fun _ => rfl) ((Above_e (by decide +kernel) (show NL _ _ (zv [[]]) from nl_of [(g0, [])] (fun x hx => by simp only [List.mem_cons, List.not_mem_nil, or_false] at hx; (subst hx; repeat (first | exact List.mem_cons_self .. | refine List.mem_cons_of_mem _ ?_))) (List.mem_cons_self ..))).mono ?_)
  rintro u L12 ⟨Y12, A12, c12, hL12, rfl, hs12⟩
  have up12 : ∀ p, p ∈ L11 → p ∈ L12 := fun p hp => tl hL12 (by repeat (first | exact hp | refine List.mem_cons_of_mem _ ?_))
  refine yG ?_
  refine OS.fresh rfl (e_make (l := 4097) (c := 4097) rfl rfl rfl makeT_lists (Nat.le_refl _) (by omega) (by omega)) (fun _ => rfl) (fun m1 => ?_)
  refine OS.call noGo rfl (fun _ => rfl) ((Sort_e (sort_many4 (n := 4097) (by omega)) rfl (nl_make (List.mem_cons_self ..))).mono ?_)
  rintro u L13 ⟨Y13, A13, c13, hL13, rfl, hs13⟩
  have up13 : ∀ p, p ∈ L12 → p ∈ L13 := fun p hp => tl hL13 (by repeat (first | exact hp | refine List.mem_cons_of_mem _ ?_))
  refine yG ?_
  refine OS.fresh rfl (e_make (l := 4096) (c := 4096) rfl rfl rfl makeT_lists (Nat.le_refl _) (by omega) (by omega)) (fun _ => rfl) (fun m2 => ?_)
  obtain ⟨q1, q2⟩ := sort_empty (n := 4096) (by omega)
  generalize hl96 : sortZ (List.replicate 4096 []) = l96 at q2
  refine OS.call noGo rfl (fun _ => rfl) ((Sort_e q1 hl96 (nl_make (List.mem_cons_self ..))).mono ?_)
  rintro u L14 ⟨Y14, A14, c14, hL14, rfl, hs14⟩
  have up14 : ∀ p, p ∈ L13 → p ∈ L14 := fun p hp => tl hL14 (by repeat (first | exact hp | refine List.mem_cons_of_mem _ ?_))
  rw [q2]
  refine ⟨_, rfl, ?_⟩
  refine OS.pure rfl (fun _ => rfl) rfl ?_
  refine OS.pure rfl (fun _ => rfl) rfl ?_
  refine OS.pure rfl (fun _ => rfl) rfl ?_
  refine OS.pure rfl (fun _ => rfl) rfl ?_
  refine OS.pure rfl (fun _ => rfl) rfl ?_
  refine OS.nil ?_
  repeat refine LS.seq ?_
  refine LS.region rfl ?_
  refine OS.fresh rfl (e_make (l := 65537) (c := 65537) rfl rfl rfl makeT_ints (Nat.le_refl _) (by omega) (by omega)) (fun _ => rfl) (fun m3 => ?_)
  refine yG ?_
  refine OS.fresh rfl (e_new (fun _ => rfl) rfl) (fun _ => rfl) (fun h0 => ?_)
  refine OS.pure rfl (fun _ => rfl) rfl ?_
  refine OS.fresh rfl (e_new (fun _ => rfl) rfl) (fun _ => rfl) (fun hc => ?_)
  refine OS.call noGo rfl (fun _ => rfl) ((Sort_e (sort_over (m := 65537) (by omega)) rfl (nl_two (r0 := h0) (by repeat (first | exact List.mem_cons_self .. | refine List.mem_cons_of_mem _ ?_)) (List.mem_cons_self ..) (sv_many (r := m3) (by repeat (first | exact List.mem_cons_self .. | refine List.mem_cons_of_mem _ ?_))))).mono ?_)
  rintro u L15 ⟨Y15, A15, c15, hL15, rfl, hs15⟩
  have up15 : ∀ p, p ∈ L14 → p ∈ L15 := fun p hp => tl hL15 (by repeat (first | exact hp | refine List.mem_cons_of_mem _ ?_))
  refine yG ?_
  refine OS.fresh rfl (e_new (fun _ => rfl) rfl) (fun _ => rfl) (fun k0 => ?_)
  refine OS.pure rfl (fun _ => rfl) rfl ?_
  refine OS.pure rfl (e_is (v' := .slice (some ⟨m3, 1, none⟩) 65536 65536) (e_sliceC1 (l := 1) rfl rfl rfl Try.underlying23 rfl (by omega) (by omega) (by decide)) rfl) rfl ?_
  refine OS.fresh rfl (e_new (fun _ => rfl) rfl) (fun _ => rfl) (fun kc => ?_)
  refine OS.call noGo rfl (fun _ => rfl) ((Sort_e (sort_zero (m := 65536) (by omega)) rfl (nl_two (r0 := k0) (by repeat (first | exact List.mem_cons_self .. | refine List.mem_cons_of_mem _ ?_)) (List.mem_cons_self ..) (sv_many1 (r := m3) (m := 65536) (List.mem_cons_of_mem _ (List.mem_cons_of_mem _ (tl hL15 (by repeat (first | exact List.mem_cons_self .. | refine List.mem_cons_of_mem _ ?_)))))))).mono ?_)
  rintro u L16 ⟨Y16, A16, c16, hL16, rfl, hs16⟩
  have up16 : ∀ p, p ∈ L15 → p ∈ L16 := fun p hp => tl hL16 (by repeat (first | exact hp | refine List.mem_cons_of_mem _ ?_))
  refine yG ?_
  refine OS.fresh rfl (e_new (fun _ => rfl) rfl) (fun _ => rfl) (fun z0 => ?_)
  refine OS.call noGo rfl (fun _ => rfl) ((IntsN_ct (xs := [0, 1, 2, 3]) ((hs5'.mono fun p hp => up16 p (up15 p (up14 p (up13 p (up12 p (up11 p (up10 p (up9 p (up8 p (up7 p (up6 p hp))))))))))).cons) (SV.row (List.mem_cons_self ..) rfl) (by decide)).mono ?_)
  rintro u L17 ⟨rfl, hL17⟩
  refine yG ?_
  rfl
end Go.Proofs.Yteakbbnlkjckhaa
