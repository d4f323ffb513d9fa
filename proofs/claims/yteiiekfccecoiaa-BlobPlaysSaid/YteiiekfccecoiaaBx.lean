/- Layer 8: what the calls of the document's desk come to. -/
import Derived.Test.YteiiekfccecoiaaBw
namespace Go.Proofs.Yteiiekfccecoiaa
open Go.Am
set_option linter.unusedVariables false
set_option maxRecDepth 20000

abbrev xRow (hv : Value) (rM : Nat) : ARow := .cells 81 [hv, .map (some rM)]
/-- The document's desk. -/
def XR (x : Nat) (H : List Int) (g : Nat → Option Value) (X : RL) : Prop :=
  ∃ hv rM Yx es ck, GV 3 1 [] hv H.length (inz H) Yx ∧ MP es ck g ∧ X = (x, xRow hv rM) :: (rM, .map es ck) :: Yx
theorem inz_at {H : List Int} {i : Nat} {z : Int} (h : H[i]? = some z) : (inz H)[i]? = some (.int .i64 z) := by simp [h]

theorem xNew_ct {L : RL} (n : Nat) (hn : n ≤ 1000000) : CS Try.prog 12 [.int .i64 (n : Nat)] L fun v L' => ∃ x X, v = ptr x ∧ XR x (List.replicate n (-1)) (fun _ => none) X ∧ L' = X ++ L := by
  refine CS.mk (fn := Try.f12) rfl rfl rfl rfl ?_
  repeat refine LS.seq ?_
  refine LS.region rfl ?_
  refine OS.pure rfl (fun _ => rfl) rfl ?_
  refine OS.nil ?_
  repeat refine LS.seq ?_
  refine LS.region rfl ?_
  refine OS.fresh rfl (e_makeMap rfl rfl rfl) (fun _ => rfl) (fun rM => ?_)
  refine OS.pure rfl (fun _ => rfl) rfl ?_
  refine OS.fresh rfl (e_new (fun _ => rfl) rfl) (fun _ => rfl) (fun x => ?_)
  refine OS.pure rfl (fun _ => rfl) rfl ?_
  refine OS.nil ?_
  repeat refine LS.seq ?_
  refine LS.region rfl ?_
  refine OS.pure rfl (fun _ => rfl) rfl ?_
  refine OS.nil ?_
  repeat refine LS.seq ?_
  refine LS.block ?_
  refine LS.loopJ [0, 3, 4] (fun q a L' => ∃ (i : Nat) (hv : Value) (Y : RL), q = n - i ∧ i ≤ n ∧ GV 3 1 [] hv i (inz (List.replicate i (-1))) Y ∧ L' = (x, xRow hv rM) :: (rM, .map [] 0) :: (Y ++ L) ∧
    a = [.int .i64 (n : Nat), .chan none, .chan none, ptr x, .int .i64 (i : Nat), .chan none, .chan none, .chan none, .chan none, .chan none, .chan none, .chan none, .chan none, .chan none, .chan none, .chan none, .chan none, .chan none, .chan none, .chan none, .chan none, .chan none, .chan none]) (n := n) rfl ⟨0, .slice none 0 0, [], rfl, by omega, GV.nil, rfl, rfl⟩ ?_
  rintro q a L' ⟨i, hv, Y, rfl, hi, hg, rfl, rfl⟩
  repeat refine LS.seq ?_
  refine LS.region rfl ?_
  refine OS.pure rfl (fun _ => rfl) rfl ?_
  refine OS.pure rfl (fun _ => rfl) rfl ?_
  refine OS.pure rfl (fun _ => rfl) rfl ?_
  refine OS.nil ?_
  repeat refine LS.seq ?_
  refine LS.cond rfl (fun hc => ?_) (fun hc => ?_)
  · have hc : (i : Int) < n := lt_of hc
    have hin : i < n := by omega
    refine LS.skip ?_
    repeat refine LS.seq ?_
    refine LS.block ?_
    repeat refine LS.seq ?_
    refine LS.region rfl ?_
    refine OS.pure rfl (fun _ => rfl) rfl ?_
    refine OS.pure rfl (fun _ => rfl) rfl ?_
    refine OS.pure rfl (fun _ => rfl) rfl ?_
    refine OS.pure rfl (fun _ => rfl) rfl ?_
    refine OS.read rfl (e_load 0 rfl rfl rfl rfl rfl) rfl ?_
    refine OS.fresh rfl (e_new (fun _ => rfl) rfl) (fun _ => rfl) (fun r2 => ?_)
    refine OS.sub (Sub.sums (A := [(r2, .cells 3 [Value.int .i64 (-1)]), (x, xRow hv rM), (rM, .map [] 0)] ++ (Y ++ L)) fun f => by simp <;> omega) ?_
    refine OS.turns rfl (e_appendGA [(r2, .cells 3 [Value.int .i64 (-1)]), (x, xRow hv rM), (rM, .map [] 0)] L (e := 3) (sz := 1) (bts := 8) (m := 1) hg (SV.row (sz := 1) (n := 1) (List.mem_cons_self ..) rfl) rfl rfl rfl rfl (by omega) (by omega)) (fun u2 L₁ hR => ?_)
    obtain ⟨Y', hg', rfl⟩ := hR
    rw [show inz (List.replicate i (-1)) ++ [Value.int .i64 (-1)] = inz (List.replicate (i + 1) (-1)) by rw [List.replicate_succ']; simp] at hg'
    refine ⟨_, rfl, ?_⟩
    refine OS.sub (Sub.sums2 [(r2, .cells 3 [Value.int .i64 (-1)])] (A := (x, xRow hv rM) :: (rM, .map [] 0) :: (Y' ++ L)) fun f => by simp <;> omega) ?_
    refine OS.pure rfl (fun _ => rfl) rfl ?_
    refine OS.pure rfl (fun _ => rfl) rfl ?_
    refine OS.write rfl (e_store 0 (n := 1) (cs' := [u2, .map (some rM)]) rfl rfl rfl rfl rfl (by rcases hg' with ⟨rfl, _⟩ | ⟨r, rfl, _⟩ <;> rfl) (by rcases hg' with ⟨rfl, _⟩ | ⟨r, rfl, _⟩ <;> rfl) rfl) rfl ?_
    refine OS.nil ?_
    repeat refine LS.seq ?_
    refine LS.region rfl ?_
    refine OS.pure rfl (fun _ => rfl) rfl ?_
    refine OS.pure rfl (e_add rfl rfl rfl (in_i64 (by omega) (by omega))) rfl ?_
    refine OS.pure rfl (fun _ => rfl) rfl ?_
    refine OS.nil ?_
    exact ⟨n - (i + 1), by omega, i + 1, u2, Y', rfl, by omega, hg', rfl, rfl⟩
  have hc : (n : Int) ≤ i := nlt_of hc
  have hin : i = n := by omega
  subst hin
  refine LS.exit ?_
  repeat refine LS.seq ?_
  refine LS.region rfl ?_
  refine OS.pure rfl (fun _ => rfl) rfl ?_
  refine OS.pure rfl (fun _ => rfl) rfl ?_
  refine OS.nil ?_
  refine LS.ret ⟨_, fun _ _ => rfl, ?_⟩
  exact ⟨x, _, rfl, ⟨hv, rM, Y, [], 0, by rw [List.length_replicate]; exact hg, MP.new, rfl⟩, rfl⟩

theorem XR.open {x : Nat} {H : List Int} {g : Nat → Option Value} {X : RL} (h : XR x H g X) : ∃ hv rM Yx es ck, GV 3 1 [] hv H.length (inz H) Yx ∧ MP es ck g ∧ X = (x, xRow hv rM) :: (rM, .map es ck) :: Yx := h
theorem frH_succ {H : List Int} {i : Nat} {z : Int} (h : H[i]? = some z) : frH (H.take (i + 1)) = frH (H.take i) + if z < 0 then 1 else 0 := by
  unfold frH
  rw [List.take_add_one, h]
  by_cases hz : z < 0 <;> simp [List.countP_append, hz]
theorem xFree_ct {x : Nat} {H : List Int} {g : Nat → Option Value} {X F : RL} (hX : XR x H g X) (hn : H.length ≤ 1000000) : CS Try.prog 23 [ptr x] (X ++ F) fun v L' => v = .int .i64 (frH H : Nat) ∧ L' = X ++ F := by
  obtain ⟨hv, rM, Yx, es, ck, hg, hM, rfl⟩ := hX
  have hsv : ∀ F, SV 1 ((x, xRow hv rM) :: (rM, .map es ck) :: Yx ++ F) hv H.length (inz H) := fun F => hg.sv.mono (fun p hp => by simp [hp])
  refine CS.mk (fn := Try.f23) rfl rfl rfl rfl ?_
  repeat refine LS.seq ?_
  refine LS.region rfl ?_
  refine OS.pure rfl (fun _ => rfl) rfl ?_
  refine OS.nil ?_
  repeat refine LS.seq ?_
  refine LS.region rfl ?_
  refine OS.pure rfl (fun _ => rfl) rfl ?_
  refine OS.nil ?_
  repeat refine LS.seq ?_
  refine LS.region rfl ?_
  refine OS.pure rfl (fun _ => rfl) rfl ?_
  refine OS.nil ?_
  repeat refine LS.seq ?_
  refine LS.block ?_
  refine LS.loopJ [0, 3, 4] (fun q a L' => ∃ (i : Nat), q = H.length - i ∧ i ≤ H.length ∧ L' = (x, xRow hv rM) :: (rM, .map es ck) :: Yx ++ F ∧
    a = [ptr x, .chan none, .chan none, .int .i64 (frH (H.take i) : Nat), .int .i64 (i : Nat), .chan none, .chan none, .chan none, .chan none, .chan none, .chan none, .chan none, .chan none, .chan none, .chan none, .chan none, .chan none, .chan none, .chan none, .chan none, .chan none, .chan none, .chan none, .chan none, .chan none]) (n := H.length) rfl ⟨0, rfl, by omega, rfl, rfl⟩ ?_
  rintro q a L' ⟨i, rfl, hi, rfl, rfl⟩
  repeat refine LS.seq ?_
  refine LS.region rfl ?_
  refine OS.pure rfl (fun _ => rfl) rfl ?_
  refine OS.pure rfl (fun _ => rfl) rfl ?_
  refine OS.pure rfl (fun _ => rfl) rfl ?_
  refine OS.pure rfl (fun _ => rfl) rfl ?_
  refine OS.read rfl (e_load 0 rfl rfl rfl rfl rfl) rfl ?_
  refine OS.pure rfl (e_len (hsv F) rfl rfl rfl rfl rfl) rfl ?_
  refine OS.pure rfl (fun _ => rfl) rfl ?_
  refine OS.nil ?_
  repeat refine LS.seq ?_
  refine LS.cond rfl (fun hc => ?_) (fun hc => ?_)
  · have hc : (i : Int) < H.length := lt_of hc
    have hin : i < H.length := by omega
    obtain ⟨z, hz⟩ : ∃ z, H[i]? = some z := ⟨_, List.getElem?_eq_getElem hin⟩
    have hle : frH (H.take i) ≤ i := by
      have : frH (H.take i) ≤ (H.take i).length := List.countP_le_length
      have h2 : (H.take i).length ≤ i := by simp; omega
      omega
    refine LS.skip ?_
    refine LS.seq ?_
    refine LS.mid [0, 3, 4] (fun a L' => L' = (x, xRow hv rM) :: (rM, .map es ck) :: Yx ++ F ∧ a = [ptr x, .chan none, .chan none, .int .i64 (frH (H.take (i + 1)) : Nat), .int .i64 (i : Nat), .chan none, .chan none, .chan none, .chan none, .chan none, .chan none, .chan none, .chan none, .chan none, .chan none, .chan none, .chan none, .chan none, .chan none, .chan none, .chan none, .chan none, .chan none, .chan none, .chan none]) ?_ ?_
    · repeat refine LS.seq ?_
      refine LS.block ?_
      repeat refine LS.seq ?_
      refine LS.region rfl ?_
      refine OS.pure rfl (fun _ => rfl) rfl ?_
      refine OS.pure rfl (fun _ => rfl) rfl ?_
      refine OS.pure rfl (fun _ => rfl) rfl ?_
      refine OS.read rfl (e_load 0 rfl rfl rfl rfl rfl) rfl ?_
      refine OS.pure rfl (fun _ => rfl) rfl ?_
      refine OS.at1 (j := i) ((hsv F)) ((inz_at hz)) rfl rfl rfl rfl rfl rfl (fun ra0 oa0 rowa0 csa0 ma0 ca0 ga0 => ⟨_, rfl, ?_⟩)
      refine OS.read rfl (e_loadm ma0 ca0 rfl rfl (part_one rfl ga0)) rfl ?_
      rw [frH_succ hz]
      by_cases hz0 : z < 0
      · have hb : (!ileB 0 z) = true := by rw [ileB_eq]; simpa using hz0
        rw [if_pos hz0]
        refine OS.pure rfl (e_is (fun _ => rfl) (congrArg Value.bool hb)) rfl ?_
        refine OS.nil ?_
        refine LS.cond rfl (fun hc => ?_) (fun hc => by cases hc)
        repeat refine LS.seq ?_
        refine LS.region rfl ?_
        refine OS.pure rfl (fun _ => rfl) rfl ?_
        refine OS.pure rfl (e_add rfl rfl rfl (in_i64 (by omega) (by omega))) rfl ?_
        refine OS.pure rfl (fun _ => rfl) rfl ?_
        refine OS.nil ?_
        exact ⟨rfl, rfl⟩
      · have hb : (!ileB 0 z) = false := by rw [ileB_eq]; simp; omega
        rw [if_neg hz0, Nat.add_zero]
        refine OS.pure rfl (e_is (fun _ => rfl) (congrArg Value.bool hb)) rfl ?_
        refine OS.nil ?_
        refine LS.cond rfl (fun hc => by cases hc) (fun hc => ?_)
        refine LS.skip ?_
        exact ⟨rfl, rfl⟩
    rintro a L' ⟨rfl, rfl⟩
    repeat refine LS.seq ?_
    refine LS.region rfl ?_
    refine OS.pure rfl (fun _ => rfl) rfl ?_
    refine OS.pure rfl (e_add rfl rfl rfl (in_i64 (by omega) (by omega))) rfl ?_
    refine OS.pure rfl (fun _ => rfl) rfl ?_
    refine OS.nil ?_
    exact ⟨H.length - (i + 1), by omega, i + 1, rfl, by omega, rfl, rfl⟩
  have hc : (H.length : Int) ≤ i := nlt_of hc
  have hin : i = H.length := by omega
  subst hin
  rw [List.take_length]
  refine LS.exit ?_
  repeat refine LS.seq ?_
  refine LS.region rfl ?_
  refine OS.pure rfl (fun _ => rfl) rfl ?_
  refine OS.pure rfl (fun _ => rfl) rfl ?_
  refine OS.nil ?_
  refine LS.ret ⟨_, fun _ _ => rfl, ?_⟩
  exact ⟨rfl, rfl⟩
/-- Lists of blocks, as far as they were gone through. -/
theorem filter_succ {p : Nat → Bool} (i : Nat) : (List.range (i + 1)).filter p = (List.range i).filter p ++ if p i then [i] else [] := by
  rw [List.range_succ, List.filter_append]
  by_cases h : p i <;> simp [h]
theorem filter_len (p : Nat → Bool) (i : Nat) : ((List.range i).filter p).length ≤ i := by
  have := List.length_filter_le p (List.range i)
  simpa using this
theorem ids_ct {x : Nat} {H : List Int} {g : Nat → Option Value} {X F : RL} (hX : XR x H g X) (hn : H.length ≤ 1000000) : CS Try.prog 13 [ptr x] (X ++ F) fun v L' => ∃ Y, GV 3 1 [] v (idsH H).length (ints (idsH H)) Y ∧ L' = Y ++ (X ++ F) := by
  obtain ⟨hv, rM, Yx, es, ck, hg, hM, rfl⟩ := hX
  obtain ⟨Z0, hZ0⟩ : ∃ Z0, Z0 = (rM, ARow.map es ck) :: Yx ++ F := ⟨_, rfl⟩
  have hsv : ∀ Y : RL, SV 1 ((x, xRow hv rM) :: (Y ++ Z0)) hv H.length (inz H) := fun F => hg.sv.mono (fun p hp => by rw [hZ0]; simp [hp])
  have hLL : (x, xRow hv rM) :: (rM, ARow.map es ck) :: Yx ++ F = (x, xRow hv rM) :: Z0 := by rw [hZ0]; rfl
  rw [hLL]
  obtain ⟨p, hp⟩ : ∃ p : Nat → Bool, p = fun i : Nat => decide (H[i]? = some ((i : Nat) : Int)) := ⟨_, rfl⟩
  have hids : idsH H = (List.range H.length).filter p := by rw [hp]; rfl
  rw [hids]
  refine CS.mk (fn := Try.f13) rfl rfl rfl rfl ?_
  repeat refine LS.seq ?_
  refine LS.region rfl ?_
  refine OS.pure rfl (fun _ => rfl) rfl ?_
  refine OS.nil ?_
  repeat refine LS.seq ?_
  refine LS.region rfl ?_
  refine OS.pure rfl (fun _ => rfl) rfl ?_
  refine OS.nil ?_
  repeat refine LS.seq ?_
  refine LS.region rfl ?_
  refine OS.pure rfl (fun _ => rfl) rfl ?_
  refine OS.nil ?_
  repeat refine LS.seq ?_
  refine LS.block ?_
  refine LS.loopJ [0, 3, 4] (fun q a L' => ∃ (i : Nat) (u : Value) (Y : RL), q = H.length - i ∧ i ≤ H.length ∧ GV 3 1 [] u ((List.range i).filter p).length (ints ((List.range i).filter p)) Y ∧ L' = (x, xRow hv rM) :: (Y ++ Z0) ∧
    a = [ptr x, .chan none, .chan none, u, .int .i64 (i : Nat), .chan none, .chan none, .chan none, .chan none, .chan none, .chan none, .chan none, .chan none, .chan none, .chan none, .chan none, .chan none, .chan none, .chan none, .chan none, .chan none, .chan none, .chan none, .chan none, .chan none, .chan none, .chan none, .chan none]) (n := H.length) rfl ⟨0, .slice none 0 0, [], rfl, by omega, GV.nil, rfl, rfl⟩ ?_
  rintro q a L' ⟨i, u, Y, rfl, hi, hu, rfl, rfl⟩
  have hpl := filter_len p i
  repeat refine LS.seq ?_
  refine LS.region rfl ?_
  refine OS.pure rfl (fun _ => rfl) rfl ?_
  refine OS.pure rfl (fun _ => rfl) rfl ?_
  refine OS.pure rfl (fun _ => rfl) rfl ?_
  refine OS.pure rfl (fun _ => rfl) rfl ?_
  refine OS.read rfl (e_load 0 rfl rfl rfl rfl rfl) rfl ?_
  refine OS.pure rfl (e_len (hsv Y) rfl rfl rfl rfl rfl) rfl ?_
  refine OS.pure rfl (fun _ => rfl) rfl ?_
  refine OS.nil ?_
  repeat refine LS.seq ?_
  refine LS.cond rfl (fun hc => ?_) (fun hc => ?_)
  · have hc : (i : Int) < H.length := lt_of hc
    have hin : i < H.length := by omega
    obtain ⟨z, hz⟩ : ∃ z, H[i]? = some z := ⟨_, List.getElem?_eq_getElem hin⟩
    have hpi : p i = ieqB z (i : Nat) := by
      rw [hp, ieqB_eq]
      simp only [hz]
      by_cases h : z = (i : Nat) <;> simp [h]
    refine LS.skip ?_
    refine LS.seq ?_
    refine LS.mid [0, 3, 4] (fun a L' => ∃ (u : Value) (Y : RL), GV 3 1 [] u ((List.range (i + 1)).filter p).length (ints ((List.range (i + 1)).filter p)) Y ∧ L' = (x, xRow hv rM) :: (Y ++ Z0) ∧ a = [ptr x, .chan none, .chan none, u, .int .i64 (i : Nat), .chan none, .chan none, .chan none, .chan none, .chan none, .chan none, .chan none, .chan none, .chan none, .chan none, .chan none, .chan none, .chan none, .chan none, .chan none, .chan none, .chan none, .chan none, .chan none, .chan none, .chan none, .chan none, .chan none]) ?_ ?_
    · repeat refine LS.seq ?_
      refine LS.block ?_
      repeat refine LS.seq ?_
      refine LS.region rfl ?_
      refine OS.pure rfl (fun _ => rfl) rfl ?_
      refine OS.pure rfl (fun _ => rfl) rfl ?_
      refine OS.pure rfl (fun _ => rfl) rfl ?_
      refine OS.read rfl (e_load 0 rfl rfl rfl rfl rfl) rfl ?_
      refine OS.pure rfl (fun _ => rfl) rfl ?_
      refine OS.at1 (j := i) ((hsv Y)) ((inz_at hz)) rfl rfl rfl rfl rfl rfl (fun ra0 oa0 rowa0 csa0 ma0 ca0 ga0 => ⟨_, rfl, ?_⟩)
      refine OS.read rfl (e_loadm ma0 ca0 rfl rfl (part_one rfl ga0)) rfl ?_
      refine OS.pure rfl (fun _ => rfl) rfl ?_
      rw [filter_succ, hpi]
      by_cases hzi : ieqB z (i : Nat) = true
      · rw [if_pos hzi]
        refine OS.pure rfl (e_is (fun _ => rfl) (congrArg Value.bool hzi)) rfl ?_
        refine OS.nil ?_
        refine LS.cond rfl (fun hc => ?_) (fun hc => by cases hc)
        repeat refine LS.seq ?_
        refine LS.region rfl ?_
        refine OS.pure rfl (fun _ => rfl) rfl ?_
        refine OS.pure rfl (fun _ => rfl) rfl ?_
        refine OS.fresh rfl (e_new (fun _ => rfl) rfl) (fun _ => rfl) (fun r2 => ?_)
        refine OS.sub (Sub.sums (A := [(r2, .cells 3 [Value.int .i64 (i : Nat)]), (x, xRow hv rM)] ++ (Y ++ Z0)) fun f => by simp <;> omega) ?_
        refine OS.turns rfl (e_appendGA [(r2, .cells 3 [Value.int .i64 (i : Nat)]), (x, xRow hv rM)] Z0 (e := 3) (sz := 1) (bts := 8) (m := 1) hu (SV.row (sz := 1) (n := 1) (List.mem_cons_self ..) rfl) rfl rfl rfl rfl (by omega) (by omega)) (fun u2 L₁ hR => ?_)
        obtain ⟨Y', hg', rfl⟩ := hR
        refine ⟨_, rfl, ?_⟩
        refine OS.sub (Sub.sums2 [(r2, .cells 3 [Value.int .i64 (i : Nat)])] (A := (x, xRow hv rM) :: (Y' ++ Z0)) fun f => by simp <;> omega) ?_
        refine OS.pure rfl (fun _ => rfl) rfl ?_
        refine OS.nil ?_
        exact ⟨u2, Y', by rw [List.length_append, show ints ((List.range i).filter p ++ [i]) = ints ((List.range i).filter p) ++ [Value.int .i64 (i : Nat)] by simp]; exact hg', rfl, rfl⟩
      · have hzi : ieqB z (i : Nat) = false := by simpa using hzi
        rw [hzi, if_neg (by simp), List.append_nil]
        refine OS.pure rfl (e_is (fun _ => rfl) (congrArg Value.bool hzi)) rfl ?_
        refine OS.nil ?_
        refine LS.cond rfl (fun hc => by cases hc) (fun hc => ?_)
        refine LS.skip ?_
        exact ⟨u, Y, hu, rfl, rfl⟩
    rintro a L' ⟨u, Y, hu, rfl, rfl⟩
    repeat refine LS.seq ?_
    refine LS.region rfl ?_
    refine OS.pure rfl (fun _ => rfl) rfl ?_
    refine OS.pure rfl (e_add rfl rfl rfl (in_i64 (by omega) (by omega))) rfl ?_
    refine OS.pure rfl (fun _ => rfl) rfl ?_
    refine OS.nil ?_
    exact ⟨H.length - (i + 1), by omega, i + 1, u, Y, rfl, by omega, hu, rfl, rfl⟩
  have hc : (H.length : Int) ≤ i := nlt_of hc
  have hin : i = H.length := by omega
  subst hin
  refine LS.exit ?_
  refine LS.sub (Sub.sums (A := Y ++ ((x, xRow hv rM) :: Z0)) fun f => by simp <;> omega) ?_
  repeat refine LS.seq ?_
  refine LS.region rfl ?_
  refine OS.pure rfl (fun _ => rfl) rfl ?_
  refine OS.pure rfl (fun _ => rfl) rfl ?_
  refine OS.nil ?_
  refine LS.ret ⟨_, fun _ _ => rfl, ?_⟩
  exact ⟨Y, hu, rfl⟩
theorem xBlocks_ct {x : Nat} {H : List Int} {g : Nat → Option Value} {X F : RL} (id : Nat) (hX : XR x H g X) (hn : H.length ≤ 1000000) : CS Try.prog 52 [ptr x, .int .i64 (id : Nat)] (X ++ F) fun v L' => ∃ Y, GV 3 1 [] v (blkH H id).length (ints (blkH H id)) Y ∧ L' = Y ++ (X ++ F) := by
  obtain ⟨hv, rM, Yx, es, ck, hg, hM, rfl⟩ := hX
  obtain ⟨Z0, hZ0⟩ : ∃ Z0, Z0 = (rM, ARow.map es ck) :: Yx ++ F := ⟨_, rfl⟩
  have hsv : ∀ Y : RL, SV 1 ((x, xRow hv rM) :: (Y ++ Z0)) hv H.length (inz H) := fun F => hg.sv.mono (fun p hp => by rw [hZ0]; simp [hp])
  have hLL : (x, xRow hv rM) :: (rM, ARow.map es ck) :: Yx ++ F = (x, xRow hv rM) :: Z0 := by rw [hZ0]; rfl
  rw [hLL]
  obtain ⟨p, hp⟩ : ∃ p : Nat → Bool, p = fun i : Nat => decide (H[i]? = some ((id : Nat) : Int)) := ⟨_, rfl⟩
  have hids : blkH H id = (List.range H.length).filter p := by rw [hp]; rfl
  have hge : ileB 0 (id : Int) = true := ileB_iff.2 (by omega)
  rw [hids]
  refine CS.mk (fn := Try.f52) rfl rfl rfl rfl ?_
  repeat refine LS.seq ?_
  refine LS.region rfl ?_
  refine OS.pure rfl (fun _ => rfl) rfl ?_
  refine OS.nil ?_
  repeat refine LS.seq ?_
  refine LS.region rfl ?_
  refine OS.pure rfl (fun _ => rfl) rfl ?_
  refine OS.nil ?_
  repeat refine LS.seq ?_
  refine LS.region rfl ?_
  refine OS.pure rfl (fun _ => rfl) rfl ?_
  refine OS.nil ?_
  repeat refine LS.seq ?_
  refine LS.block ?_
  refine LS.loopJ [0, 1, 5, 6] (fun q a L' => ∃ (i : Nat) (u : Value) (Y : RL), q = H.length - i ∧ i ≤ H.length ∧ GV 3 1 [] u ((List.range i).filter p).length (ints ((List.range i).filter p)) Y ∧ L' = (x, xRow hv rM) :: (Y ++ Z0) ∧
    a = [ptr x, .int .i64 (id : Nat), .chan none, .chan none, .chan none, u, .int .i64 (i : Nat), .chan none, .chan none, .chan none, .chan none, .chan none, .chan none, .chan none, .chan none, .chan none, .chan none, .chan none, .chan none, .chan none, .chan none, .chan none, .chan none, .chan none, .chan none, .chan none, .chan none, .chan none, .chan none, .chan none, .chan none, .chan none, .chan none, .chan none]) (n := H.length) rfl ⟨0, .slice none 0 0, [], rfl, by omega, GV.nil, rfl, rfl⟩ ?_
  rintro q a L' ⟨i, u, Y, rfl, hi, hu, rfl, rfl⟩
  have hpl := filter_len p i
  repeat refine LS.seq ?_
  refine LS.region rfl ?_
  refine OS.pure rfl (fun _ => rfl) rfl ?_
  refine OS.pure rfl (fun _ => rfl) rfl ?_
  refine OS.pure rfl (fun _ => rfl) rfl ?_
  refine OS.pure rfl (fun _ => rfl) rfl ?_
  refine OS.read rfl (e_load 0 rfl rfl rfl rfl rfl) rfl ?_
  refine OS.pure rfl (e_len (hsv Y) rfl rfl rfl rfl rfl) rfl ?_
  refine OS.pure rfl (fun _ => rfl) rfl ?_
  refine OS.nil ?_
  repeat refine LS.seq ?_
  refine LS.cond rfl (fun hc => ?_) (fun hc => ?_)
  · have hc : (i : Int) < H.length := lt_of hc
    have hin : i < H.length := by omega
    obtain ⟨z, hz⟩ : ∃ z, H[i]? = some z := ⟨_, List.getElem?_eq_getElem hin⟩
    have hpi : p i = ieqB z (id : Nat) := by
      rw [hp, ieqB_eq]
      simp only [hz]
      by_cases h : z = (id : Nat) <;> simp [h]
    refine LS.skip ?_
    refine LS.seq ?_
    refine LS.mid [0, 1, 5, 6] (fun a L' => ∃ (u : Value) (Y : RL), GV 3 1 [] u ((List.range (i + 1)).filter p).length (ints ((List.range (i + 1)).filter p)) Y ∧ L' = (x, xRow hv rM) :: (Y ++ Z0) ∧ a = [ptr x, .int .i64 (id : Nat), .chan none, .chan none, .chan none, u, .int .i64 (i : Nat), .chan none, .chan none, .chan none, .chan none, .chan none, .chan none, .chan none, .chan none, .chan none, .chan none, .chan none, .chan none, .chan none, .chan none, .chan none, .chan none, .chan none, .chan none, .chan none, .chan none, .chan none, .chan none, .chan none, .chan none, .chan none, .chan none, .chan none]) ?_ ?_
    · repeat refine LS.seq ?_
      refine LS.block ?_
      repeat refine LS.seq ?_
      refine LS.region rfl ?_
      refine OS.pure rfl (fun _ => rfl) rfl ?_
      refine OS.pure rfl (fun _ => rfl) rfl ?_
      refine OS.pure rfl (fun _ => rfl) rfl ?_
      refine OS.read rfl (e_load 0 rfl rfl rfl rfl rfl) rfl ?_
      refine OS.pure rfl (fun _ => rfl) rfl ?_
      refine OS.at1 (j := i) ((hsv Y)) ((inz_at hz)) rfl rfl rfl rfl rfl rfl (fun ra0 oa0 rowa0 csa0 ma0 ca0 ga0 => ⟨_, rfl, ?_⟩)
      refine OS.read rfl (e_loadm ma0 ca0 rfl rfl (part_one rfl ga0)) rfl ?_
      refine OS.pure rfl (fun _ => rfl) rfl ?_
      rw [filter_succ, hpi]
      by_cases hzi : ieqB z (id : Nat) = true
      · rw [if_pos hzi]
        refine OS.pure rfl (e_is (fun _ => rfl) (congrArg Value.bool hzi)) rfl ?_
        refine OS.pure rfl (fun _ => rfl) rfl ?_
        refine OS.pure rfl (fun _ => rfl) rfl ?_
        refine OS.pure rfl (e_is (fun _ => rfl) (congrArg Value.bool hge)) rfl ?_
        refine OS.pure rfl (fun _ => rfl) rfl ?_
        refine OS.nil ?_
        refine LS.cond rfl (fun hc => ?_) (fun hc => by cases hc)
        repeat refine LS.seq ?_
        refine LS.region rfl ?_
        refine OS.pure rfl (fun _ => rfl) rfl ?_
        refine OS.pure rfl (fun _ => rfl) rfl ?_
        refine OS.fresh rfl (e_new (fun _ => rfl) rfl) (fun _ => rfl) (fun r2 => ?_)
        refine OS.sub (Sub.sums (A := [(r2, .cells 3 [Value.int .i64 (i : Nat)]), (x, xRow hv rM)] ++ (Y ++ Z0)) fun f => by simp <;> omega) ?_
        refine OS.turns rfl (e_appendGA [(r2, .cells 3 [Value.int .i64 (i : Nat)]), (x, xRow hv rM)] Z0 (e := 3) (sz := 1) (bts := 8) (m := 1) hu (SV.row (sz := 1) (n := 1) (List.mem_cons_self ..) rfl) rfl rfl rfl rfl (by omega) (by omega)) (fun u2 L₁ hR => ?_)
        obtain ⟨Y', hg', rfl⟩ := hR
        refine ⟨_, rfl, ?_⟩
        refine OS.sub (Sub.sums2 [(r2, .cells 3 [Value.int .i64 (i : Nat)])] (A := (x, xRow hv rM) :: (Y' ++ Z0)) fun f => by simp <;> omega) ?_
        refine OS.pure rfl (fun _ => rfl) rfl ?_
        refine OS.nil ?_
        exact ⟨u2, Y', by rw [List.length_append, show ints ((List.range i).filter p ++ [i]) = ints ((List.range i).filter p) ++ [Value.int .i64 (i : Nat)] by simp]; exact hg', rfl, rfl⟩
      · have hzi : ieqB z (id : Nat) = false := by simpa using hzi
        rw [hzi, if_neg (by simp), List.append_nil]
        refine OS.pure rfl (e_is (fun _ => rfl) (congrArg Value.bool hzi)) rfl ?_
        refine OS.pure rfl (fun _ => rfl) rfl ?_
        refine OS.skip rfl rfl ?_
        refine OS.skip rfl rfl ?_
        refine OS.pure rfl (fun _ => rfl) rfl ?_
        refine OS.nil ?_
        refine LS.cond rfl (fun hc => by cases hc) (fun hc => ?_)
        refine LS.skip ?_
        exact ⟨u, Y, hu, rfl, rfl⟩
    rintro a L' ⟨u, Y, hu, rfl, rfl⟩
    repeat refine LS.seq ?_
    refine LS.region rfl ?_
    refine OS.pure rfl (fun _ => rfl) rfl ?_
    refine OS.pure rfl (e_add rfl rfl rfl (in_i64 (by omega) (by omega))) rfl ?_
    refine OS.pure rfl (fun _ => rfl) rfl ?_
    refine OS.nil ?_
    exact ⟨H.length - (i + 1), by omega, i + 1, u, Y, rfl, by omega, hu, rfl, rfl⟩
  have hc : (H.length : Int) ≤ i := nlt_of hc
  have hin : i = H.length := by omega
  subst hin
  refine LS.exit ?_
  refine LS.sub (Sub.sums (A := Y ++ ((x, xRow hv rM) :: Z0)) fun f => by simp <;> omega) ?_
  repeat refine LS.seq ?_
  refine LS.region rfl ?_
  refine OS.pure rfl (fun _ => rfl) rfl ?_
  refine OS.pure rfl (fun _ => rfl) rfl ?_
  refine OS.nil ?_
  refine LS.ret ⟨_, fun _ _ => rfl, ?_⟩
  exact ⟨Y, hu, rfl⟩
theorem int_keys : ∀ n : Int, isKeyB Try.prog 3 (.int .i64 n) = true := fun n => by kernel_rfl
theorem xGet_ct {x : Nat} {H : List Int} {g : Nat → Option Value} {X F : RL} {id : Nat} {data : List UInt8} (hX : XR x H g X) (hgi : g id = some (txt data)) : CS Try.prog 51 [ptr x, .int .i64 (id : Nat)] (X ++ F) fun v L' => v = .tuple #[txt data, .bool true] ∧ L' = X ++ F := by
  obtain ⟨hv, rM, Yx, es, ck, hg, hM, rfl⟩ := hX
  refine CS.mk (fn := Try.f51) rfl rfl rfl rfl ?_
  repeat refine LS.seq ?_
  refine LS.region rfl ?_
  refine OS.pure rfl (fun _ => rfl) rfl ?_
  refine OS.pure rfl (fun _ => rfl) rfl ?_
  refine OS.nil ?_
  repeat refine LS.seq ?_
  refine LS.region rfl ?_
  refine OS.pure rfl (fun _ => rfl) rfl ?_
  refine OS.pure rfl (fun _ => rfl) rfl ?_
  refine OS.pure rfl (fun _ => rfl) rfl ?_
  refine OS.read rfl (e_load 0 rfl rfl rfl rfl rfl) rfl ?_
  refine OS.pure rfl (fun _ => rfl) rfl ?_
  refine OS.read rfl (e_is' (e_get2 (zv := txt []) hM (List.mem_cons_of_mem _ (List.mem_cons_self ..)) rfl rfl rfl rfl int_keys rfl) (show _ = Value.tuple #[txt data, .bool true] by rw [hgi]; rfl)) rfl ?_
  refine OS.pure rfl (fun _ => rfl) rfl ?_
  refine OS.pure rfl (fun _ => rfl) rfl ?_
  refine OS.pure rfl (fun _ => rfl) rfl ?_
  refine OS.pure rfl (fun _ => rfl) rfl ?_
  refine OS.pure rfl (fun _ => rfl) rfl ?_
  refine OS.nil ?_
  repeat refine LS.seq ?_
  refine LS.region rfl ?_
  refine OS.pure rfl (fun _ => rfl) rfl ?_
  refine OS.pure rfl (fun _ => rfl) rfl ?_
  refine OS.pure rfl (fun _ => rfl) rfl ?_
  refine OS.pure rfl (fun _ => rfl) rfl ?_
  refine OS.nil ?_
  refine LS.ret ⟨_, fun _ _ => rfl, ?_⟩
  exact ⟨rfl, rfl⟩

def dropTo (H : List Int) (z : Int) (i : Nat) : List Int := dropH (H.take i) z ++ H.drop i
theorem dropTo_len (H : List Int) (z : Int) (i : Nat) : (dropTo H z i).length = H.length := by unfold dropTo dropH; simp; omega
theorem dropTo_succ {H : List Int} {z y : Int} {i : Nat} (h : H[i]? = some y) : dropTo H z (i + 1) = (dropTo H z i).set i (if y = z then -1 else y) := by
  have hi : i < H.length := (List.getElem?_eq_some_iff.1 h).1
  have hl : (dropH (H.take i) z).length = i := by unfold dropH; simp; omega
  have e : H.drop i = y :: H.drop (i + 1) := by
    rw [List.drop_eq_getElem_cons hi]
    congr 1
    exact (List.getElem?_eq_some_iff.1 h).2
  unfold dropTo
  rw [List.set_append_right _ _ (by omega), hl, Nat.sub_self, e, List.set_cons_zero, List.take_add_one, h]
  unfold dropH
  simp
theorem dropTo_at {H : List Int} {z y : Int} {i : Nat} (h : H[i]? = some y) : (dropTo H z i)[i]? = some y := by
  have hi : i < H.length := (List.getElem?_eq_some_iff.1 h).1
  have hl : (dropH (H.take i) z).length = i := by unfold dropH; simp; omega
  unfold dropTo
  rw [List.getElem?_append_right (by omega), hl, Nat.sub_self, List.getElem?_drop, Nat.add_zero, h]
theorem dropTo_same {H : List Int} {z y : Int} {i : Nat} (h : H[i]? = some y) (hy : y ≠ z) : dropTo H z (i + 1) = dropTo H z i := by
  rw [dropTo_succ h, if_neg hy]
  apply List.ext_getElem?
  intro j
  rw [List.getElem?_set]
  by_cases hj : i = j
  · subst hj; rw [if_pos rfl, dropTo_at h, if_pos (by rw [dropTo_len]; exact (List.getElem?_eq_some_iff.1 h).1)]
  · rw [if_neg hj]
theorem xDrop_ct {x : Nat} {H : List Int} {g : Nat → Option Value} {X F : RL} (id : Nat) (hX : XR x H g X) (h0 : 0 < H.length) (hn : H.length ≤ 1000000) : CS Try.prog 20 [ptr x, .int .i64 (id : Nat)] (X ++ F) fun v L' => ∃ X', XR x (dropH H (id : Nat)) (updF g id none) X' ∧ L' = X' ++ F := by
  obtain ⟨hv, rM, Yx, es, ck, hg, hM, rfl⟩ := hX
  rcases hg with ⟨_, h, _⟩ | ⟨rh, rfl, hgl, rfl⟩
  · omega
  refine CS.mk (fn := Try.f20) rfl rfl rfl rfl ?_
  repeat refine LS.seq ?_
  refine LS.region rfl ?_
  refine OS.pure rfl (fun _ => rfl) rfl ?_
  refine OS.nil ?_
  repeat refine LS.seq ?_
  refine LS.block ?_
  refine LS.loopJ [0, 1, 4] (fun q a L' => ∃ (i : Nat), q = H.length - i ∧ i ≤ H.length ∧ L' = (x, xRow (.slice (some ⟨rh, 0, none⟩) H.length openCap) rM) :: (rM, .map es ck) :: (rh, .cells 3 (inz (dropTo H (id : Nat) i))) :: F ∧
    a = [ptr x, .int .i64 (id : Nat), .chan none, .chan none, .int .i64 (i : Nat), .chan none, .chan none, .chan none, .chan none, .chan none, .chan none, .chan none, .chan none, .chan none, .chan none, .chan none, .chan none, .chan none, .chan none, .chan none, .chan none, .chan none, .chan none, .chan none, .chan none, .chan none, .chan none, .chan none, .chan none, .chan none, .chan none, .chan none, .chan none, .chan none]) (n := H.length) rfl ⟨0, rfl, by omega, rfl, rfl⟩ ?_
  rintro q a L' ⟨i, rfl, hi, rfl, rfl⟩
  have hil : (inz (dropTo H (id : Nat) i)).length = H.length := by rw [List.length_map, dropTo_len]
  have hsv : SV 1 ((x, xRow (.slice (some ⟨rh, 0, none⟩) H.length openCap) rM) :: (rM, .map es ck) :: (rh, .cells 3 (inz (dropTo H (id : Nat) i))) :: F) (.slice (some ⟨rh, 0, none⟩) H.length openCap) H.length (inz (dropTo H (id : Nat) i)) := SV.row (e := 3) (by simp) (by omega)
  repeat refine LS.seq ?_
  refine LS.region rfl ?_
  refine OS.pure rfl (fun _ => rfl) rfl ?_
  refine OS.pure rfl (fun _ => rfl) rfl ?_
  refine OS.pure rfl (fun _ => rfl) rfl ?_
  refine OS.pure rfl (fun _ => rfl) rfl ?_
  refine OS.read rfl (e_load 0 rfl rfl rfl rfl rfl) rfl ?_
  refine OS.pure rfl (e_len hsv rfl rfl rfl rfl rfl) rfl ?_
  refine OS.pure rfl (fun _ => rfl) rfl ?_
  refine OS.nil ?_
  repeat refine LS.seq ?_
  refine LS.cond rfl (fun hc => ?_) (fun hc => ?_)
  · have hc : (i : Int) < H.length := lt_of hc
    have hin : i < H.length := by omega
    obtain ⟨y, hy⟩ : ∃ y, H[i]? = some y := ⟨_, List.getElem?_eq_getElem hin⟩
    refine LS.skip ?_
    refine LS.seq ?_
    refine LS.mid [0, 1, 4] (fun a L' => L' = (x, xRow (.slice (some ⟨rh, 0, none⟩) H.length openCap) rM) :: (rM, .map es ck) :: (rh, .cells 3 (inz (dropTo H (id : Nat) (i + 1)))) :: F ∧ a = [ptr x, .int .i64 (id : Nat), .chan none, .chan none, .int .i64 (i : Nat), .chan none, .chan none, .chan none, .chan none, .chan none, .chan none, .chan none, .chan none, .chan none, .chan none, .chan none, .chan none, .chan none, .chan none, .chan none, .chan none, .chan none, .chan none, .chan none, .chan none, .chan none, .chan none, .chan none, .chan none, .chan none, .chan none, .chan none, .chan none, .chan none]) ?_ ?_
    · repeat refine LS.seq ?_
      refine LS.block ?_
      repeat refine LS.seq ?_
      refine LS.region rfl ?_
      refine OS.pure rfl (fun _ => rfl) rfl ?_
      refine OS.pure rfl (fun _ => rfl) rfl ?_
      refine OS.pure rfl (fun _ => rfl) rfl ?_
      refine OS.read rfl (e_load 0 rfl rfl rfl rfl rfl) rfl ?_
      refine OS.pure rfl (fun _ => rfl) rfl ?_
      refine OS.at1 (j := i) (hsv) ((inz_at (dropTo_at hy))) rfl rfl rfl rfl rfl rfl (fun ra0 oa0 rowa0 csa0 ma0 ca0 ga0 => ⟨_, rfl, ?_⟩)
      refine OS.read rfl (e_loadm ma0 ca0 rfl rfl (part_one rfl ga0)) rfl ?_
      refine OS.pure rfl (fun _ => rfl) rfl ?_
      by_cases hzi : ieqB y (id : Nat) = true
      · have hyid : y = (id : Nat) := eq_of hzi
        refine OS.pure rfl (e_is (fun _ => rfl) (congrArg Value.bool hzi)) rfl ?_
        refine OS.nil ?_
        refine LS.cond rfl (fun hc => ?_) (fun hc => by cases hc)
        repeat refine LS.seq ?_
        refine LS.region rfl ?_
        refine OS.pure rfl (fun _ => rfl) rfl ?_
        refine OS.pure rfl (fun _ => rfl) rfl ?_
        refine OS.pure rfl (fun _ => rfl) rfl ?_
        refine OS.read rfl (e_load 0 rfl rfl rfl rfl rfl) rfl ?_
        refine OS.pure rfl (fun _ => rfl) rfl ?_
        refine OS.pure rfl (e_index (j := i) (sz := 1) rfl rfl rfl rfl rfl hin) rfl ?_
        refine OS.write rfl (e_store 2 (n := 1) rfl rfl rfl rfl rfl rfl (lay_one (by omega)) rfl) rfl ?_
        rw [show (inz (dropTo H (id : Nat) i)).set (0 + i * 1) (Value.int .i64 (-1)) = inz (dropTo H (id : Nat) (i + 1)) by rw [dropTo_succ hy, if_pos hyid, Nat.mul_one, Nat.zero_add]; simp [List.map_set]]
        refine OS.nil ?_
        exact ⟨rfl, rfl⟩
      · have hzi : ieqB y (id : Nat) = false := by simpa using hzi
        rw [dropTo_same hy (neq_of hzi)]
        refine OS.pure rfl (e_is (fun _ => rfl) (congrArg Value.bool hzi)) rfl ?_
        refine OS.nil ?_
        refine LS.cond rfl (fun hc => by cases hc) (fun hc => ?_)
        refine LS.skip ?_
        exact ⟨rfl, rfl⟩
    rintro a L' ⟨rfl, rfl⟩
    repeat refine LS.seq ?_
    refine LS.region rfl ?_
    refine OS.pure rfl (fun _ => rfl) rfl ?_
    refine OS.pure rfl (e_add rfl rfl rfl (in_i64 (by omega) (by omega))) rfl ?_
    refine OS.pure rfl (fun _ => rfl) rfl ?_
    refine OS.nil ?_
    exact ⟨H.length - (i + 1), by omega, i + 1, rfl, by omega, rfl, rfl⟩
  have hc : (H.length : Int) ≤ i := nlt_of hc
  have hin : i = H.length := by omega
  subst hin
  have hd : dropTo H (id : Nat) H.length = dropH H (id : Nat) := by unfold dropTo; simp
  rw [hd] at hil ⊢
  refine LS.exit ?_
  repeat refine LS.seq ?_
  refine LS.region rfl ?_
  refine OS.pure rfl (fun _ => rfl) rfl ?_
  refine OS.pure rfl (fun _ => rfl) rfl ?_
  refine OS.pure rfl (fun _ => rfl) rfl ?_
  refine OS.read rfl (e_load 0 rfl rfl rfl rfl rfl) rfl ?_
  refine OS.pure rfl (fun _ => rfl) rfl ?_
  refine OS.mapDel 1 hM rfl rfl rfl rfl rfl rfl int_keys rfl rfl (fun es' hM' => ⟨_, rfl, ?_⟩)
  refine OS.nil ?_
  refine ⟨_, fun _ _ => rfl, ?_⟩
  have hdl : (dropH H (id : Nat)).length = H.length := by unfold dropH; simp
  exact ⟨_, ⟨.slice (some ⟨rh, 0, none⟩) H.length openCap, rM, _, es', ck, .inr ⟨rh, by rw [hdl], by simp, rfl⟩, hM', rfl⟩, rfl⟩
/-- The id as far as it is known. -/
def idV (T : List Bool) (k : Nat) : Int := if k = 0 then -1 else (Z.ff T : Nat)
theorem xPut_full {x : Nat} {H : List Int} {g : Nat → Option Value} {X F : RL} {T : List Bool} {data : List UInt8} {n : Nat} (hX : XR x H g X) (hT : TH T H) (hn : H.length ≤ 1000000) (hdl : data.length ≤ 1000000) (hnn : need data.length = n) (hf : Z.frees T < n) :
    CS Try.prog 17 [ptr x, txt data] (X ++ F) fun v L' => v = .tuple #[.int .i64 0, .int .i64 3] ∧ L' = X ++ F := by
  have hb : (!ileB (n : Int) (frH H : Nat)) = true := by rw [← hT.frees, ileB_eq]; simp; omega
  refine CS.mk (fn := Try.f17) rfl rfl rfl rfl ?_
  repeat refine LS.seq ?_
  refine LS.region rfl ?_
  refine OS.pure rfl (fun _ => rfl) rfl ?_
  refine OS.pure rfl (fun _ => rfl) rfl ?_
  refine OS.nil ?_
  repeat refine LS.seq ?_
  refine LS.region rfl ?_
  refine OS.pure rfl (fun _ => rfl) rfl ?_
  refine OS.pure rfl (e_is (fun _ => rfl) (show _ = Value.int .i64 (data.length : Nat) from rfl)) rfl ?_
  refine OS.call noGo rfl (fun _ => rfl) ((refNeed_ct data.length (by omega)).mono ?_)
  rintro v L' ⟨rfl, rfl⟩
  rw [hnn]
  refine ⟨_, rfl, ?_⟩
  refine OS.pure rfl (fun _ => rfl) rfl ?_
  refine OS.nil ?_
  repeat refine LS.seq ?_
  refine LS.region rfl ?_
  refine OS.pure rfl (fun _ => rfl) rfl ?_
  refine OS.pure rfl (fun _ => rfl) rfl ?_
  refine OS.call noGo rfl (fun _ => rfl) ((xFree_ct hX hn).mono ?_)
  rintro v L' ⟨rfl, rfl⟩
  refine ⟨_, rfl, ?_⟩
  refine OS.pure rfl (e_is (fun _ => rfl) (congrArg Value.bool hb)) rfl ?_
  refine OS.nil ?_
  refine LS.cond rfl (fun hc => ?_) (fun hc => by cases hc)
  repeat refine LS.seq ?_
  refine LS.region rfl ?_
  refine OS.pure rfl (fun _ => rfl) rfl ?_
  refine OS.pure rfl (fun _ => rfl) rfl ?_
  refine OS.nil ?_
  refine LS.ret ⟨_, fun _ _ => rfl, ?_⟩
  exact ⟨rfl, rfl⟩
theorem xPut_ct {x : Nat} {H : List Int} {g : Nat → Option Value} {X F : RL} {T : List Bool} {data : List UInt8} {n : Nat} (hX : XR x H g X) (hT : TH T H) (hn : H.length ≤ 1000000) (hdl : data.length ≤ 1000000) (hnn : need data.length = n) (hf : n ≤ Z.frees T) :
    CS Try.prog 17 [ptr x, txt data] (X ++ F) fun v L' => v = .tuple #[.int .i64 (Z.ff T : Nat), .int .i64 0] ∧ ∃ X', XR x (setAll H (Z.tkL T n) (Z.ff T : Nat)) (updF g (Z.ff T) (some (txt data))) X' ∧ L' = X' ++ F := by
  have hn2 := need_two data.length
  have hfl := Z.frees_le T
  have hTl := hT.len
  have hb : (!ileB (n : Int) (frH H : Nat)) = false := by rw [← hT.frees, ileB_eq]; simp; omega
  refine CS.mk (fn := Try.f17) rfl rfl rfl rfl ?_
  repeat refine LS.seq ?_
  refine LS.region rfl ?_
  refine OS.pure rfl (fun _ => rfl) rfl ?_
  refine OS.pure rfl (fun _ => rfl) rfl ?_
  refine OS.nil ?_
  repeat refine LS.seq ?_
  refine LS.region rfl ?_
  refine OS.pure rfl (fun _ => rfl) rfl ?_
  refine OS.pure rfl (e_is (fun _ => rfl) (show _ = Value.int .i64 (data.length : Nat) from rfl)) rfl ?_
  refine OS.call noGo rfl (fun _ => rfl) ((refNeed_ct data.length (by omega)).mono ?_)
  rintro v L' ⟨rfl, rfl⟩
  rw [hnn]
  refine ⟨_, rfl, ?_⟩
  refine OS.pure rfl (fun _ => rfl) rfl ?_
  refine OS.nil ?_
  repeat refine LS.seq ?_
  refine LS.region rfl ?_
  refine OS.pure rfl (fun _ => rfl) rfl ?_
  refine OS.pure rfl (fun _ => rfl) rfl ?_
  refine OS.call noGo rfl (fun _ => rfl) ((xFree_ct hX hn).mono ?_)
  rintro v L' ⟨rfl, rfl⟩
  refine ⟨_, rfl, ?_⟩
  refine OS.pure rfl (e_is (fun _ => rfl) (congrArg Value.bool (show (!ileB (n : Int) (frH H : Nat)) = false from hb))) rfl ?_
  refine OS.nil ?_
  refine LS.cond rfl (fun hc => by cases hc) (fun hc => ?_)
  refine LS.skip ?_
  obtain ⟨hv, rM, Yx, es, ck, hg, hM, rfl⟩ := hX
  rcases hg with ⟨_, h, _⟩ | ⟨rh, rfl, hgl, rfl⟩
  · omega
  repeat refine LS.seq ?_
  refine LS.region rfl ?_
  refine OS.pure rfl (fun _ => rfl) rfl ?_
  refine OS.nil ?_
  repeat refine LS.seq ?_
  refine LS.region rfl ?_
  refine OS.pure rfl (fun _ => rfl) rfl ?_
  refine OS.nil ?_
  refine LS.mid [0, 1, 7] (fun a L' => L' = (x, xRow (.slice (some ⟨rh, 0, none⟩) H.length openCap) rM) :: (rM, .map es ck) :: (rh, .cells 3 (inz (setAll H (Z.tkL T n) (Z.ff T : Nat)))) :: F ∧
    a = [ptr x, txt data, .chan none, .chan none, .chan none, .chan none, .chan none, .int .i64 (Z.ff T : Nat), .chan none, .chan none, .chan none, .chan none, .chan none, .chan none, .chan none, .chan none, .chan none, .chan none, .chan none, .chan none, .chan none, .chan none, .chan none, .chan none, .chan none, .chan none, .chan none, .chan none, .chan none, .chan none, .chan none, .chan none, .chan none, .chan none, .chan none, .chan none, .chan none, .chan none, .chan none, .chan none, .chan none, .chan none, .chan none, .chan none, .chan none, .chan none, .chan none]) ?_ ?_
  · refine LS.block ?_
    refine LS.loopJ [0, 1, 6, 7, 8] (fun q a L' => ∃ (i k : Nat), q = H.length - i ∧ i ≤ H.length ∧ k ≤ n ∧ (∀ j, j < i → Z.tkn (Z.tkT T k) j = true) ∧ L' = (x, xRow (.slice (some ⟨rh, 0, none⟩) H.length openCap) rM) :: (rM, .map es ck) :: (rh, .cells 3 (inz (setAll H (Z.tkL T k) (Z.ff T : Nat)))) :: F ∧
      a = [ptr x, txt data, .chan none, .chan none, .chan none, .chan none, .int .i64 ((n - k : Nat) : Int), .int .i64 (idV T k), .int .i64 (i : Nat), .chan none, .chan none, .chan none, .chan none, .chan none, .chan none, .chan none, .chan none, .chan none, .chan none, .chan none, .chan none, .chan none, .chan none, .chan none, .chan none, .chan none, .chan none, .chan none, .chan none, .chan none, .chan none, .chan none, .chan none, .chan none, .chan none, .chan none, .chan none, .chan none, .chan none, .chan none, .chan none, .chan none, .chan none, .chan none, .chan none, .chan none, .chan none]) (n := H.length) rfl ⟨0, 0, rfl, by omega, by omega, fun j hj => by omega, rfl, rfl⟩ ?_
    rintro q a L' ⟨i, k, rfl, hi, hk, hall, rfl, rfl⟩
    have hHl : (setAll H (Z.tkL T k) (Z.ff T : Nat)).length = H.length := setAll_len
    have hTk := hT.take (z := (Z.ff T : Nat)) (by omega) k
    rcases Nat.lt_or_ge k n with hkn | hkn
    case inr =>
      have hkn : k = n := by omega
      subst hkn
      have hb2 : (!ileB ((k - k : Nat) : Int) 0) = false := by rw [Nat.sub_self]; rfl
      repeat refine LS.seq ?_
      refine LS.region rfl ?_
      refine OS.pure rfl (fun _ => rfl) rfl ?_
      refine OS.pure rfl (e_is (fun _ => rfl) (congrArg Value.bool hb2)) rfl ?_
      refine OS.nil ?_
      repeat refine LS.seq ?_
      refine LS.cond rfl (fun hc => by cases hc) (fun hc => ?_)
      refine LS.exit ?_
      refine ⟨rfl, ?_⟩
      rw [show idV T k = (Z.ff T : Nat) by unfold idV; rw [if_neg (by omega)]]
      rfl
    have hb2 : (!ileB ((n - k : Nat) : Int) 0) = true := by rw [ileB_eq, Bool.not_eq_true', decide_eq_false_iff_not]; omega
    have hffk := Z.tkT_ff (T := T) (n := k) (by omega)
    have hih : i ≤ Z.ff (Z.tkT T k) := by
      rcases Nat.lt_or_ge (Z.ff (Z.tkT T k)) i with h | h
      · have h1 := hall _ h
        rw [Z.ff_here (by rw [Z.tkT_len]; exact hffk)] at h1
        cases h1
      · exact h
    have hin : i < H.length := by omega
    obtain ⟨y, hy⟩ : ∃ y, (setAll H (Z.tkL T k) (Z.ff T : Nat))[i]? = some y := ⟨_, List.getElem?_eq_getElem (by omega)⟩
    have hyt := hTk.tkn hy
    have hsv : SV 1 ((x, xRow (.slice (some ⟨rh, 0, none⟩) H.length openCap) rM) :: (rM, .map es ck) :: (rh, .cells 3 (inz (setAll H (Z.tkL T k) (Z.ff T : Nat)))) :: F) (.slice (some ⟨rh, 0, none⟩) H.length openCap) H.length (inz (setAll H (Z.tkL T k) (Z.ff T : Nat))) := SV.row (e := 3) (by simp) (by rw [List.length_map]; omega)
    repeat refine LS.seq ?_
    refine LS.region rfl ?_
    refine OS.pure rfl (fun _ => rfl) rfl ?_
    refine OS.pure rfl (e_is (fun _ => rfl) (congrArg Value.bool hb2)) rfl ?_
    refine OS.nil ?_
    repeat refine LS.seq ?_
    refine LS.cond rfl (fun hc => ?_) (fun hc => by cases hc)
    refine LS.skip ?_
    refine LS.seq ?_
    refine LS.mid [0, 1, 6, 7, 8] (fun a L' => ∃ (k : Nat), k ≤ n ∧ (∀ j, j < i + 1 → Z.tkn (Z.tkT T k) j = true) ∧ L' = (x, xRow (.slice (some ⟨rh, 0, none⟩) H.length openCap) rM) :: (rM, .map es ck) :: (rh, .cells 3 (inz (setAll H (Z.tkL T k) (Z.ff T : Nat)))) :: F ∧
      a = [ptr x, txt data, .chan none, .chan none, .chan none, .chan none, .int .i64 ((n - k : Nat) : Int), .int .i64 (idV T k), .int .i64 (i : Nat), .chan none, .chan none, .chan none, .chan none, .chan none, .chan none, .chan none, .chan none, .chan none, .chan none, .chan none, .chan none, .chan none, .chan none, .chan none, .chan none, .chan none, .chan none, .chan none, .chan none, .chan none, .chan none, .chan none, .chan none, .chan none, .chan none, .chan none, .chan none, .chan none, .chan none, .chan none, .chan none, .chan none, .chan none, .chan none, .chan none, .chan none, .chan none]) ?_ ?_
    · refine LS.block ?_
      by_cases hy0 : 0 ≤ y
      · have hb3 : ileB 0 y = true := ileB_iff.2 hy0
        repeat refine LS.seq ?_
        refine LS.region rfl ?_
        refine OS.pure rfl (fun _ => rfl) rfl ?_
        refine OS.pure rfl (fun _ => rfl) rfl ?_
        refine OS.pure rfl (fun _ => rfl) rfl ?_
        refine OS.read rfl (e_load 0 rfl rfl rfl rfl rfl) rfl ?_
        refine OS.pure rfl (fun _ => rfl) rfl ?_
        refine OS.at1 (j := i) (hsv) ((inz_at hy)) rfl rfl rfl rfl rfl rfl (fun ra0 oa0 rowa0 csa0 ma0 ca0 ga0 => ⟨_, rfl, ?_⟩)
        refine OS.read rfl (e_loadm ma0 ca0 rfl rfl (part_one rfl ga0)) rfl ?_
        refine OS.pure rfl (e_is (fun _ => rfl) (congrArg Value.bool hb3)) rfl ?_
        refine OS.nil ?_
        refine LS.cond rfl (fun hc => ?_) (fun hc => by cases hc)
        refine LS.exit ?_
        refine ⟨k, hk, fun j hj => ?_, rfl, rfl⟩
        rcases Nat.lt_or_ge j i with h | h
        · exact hall j h
        · rw [show j = i by omega, hyt, decide_eq_true hy0]
      · have hb3 : ileB 0 y = false := by rw [ileB_eq]; simp; omega
        have hfree : Z.tkn (Z.tkT T k) i = false := by rw [hyt, decide_eq_false hy0]
        have hiff : i = Z.ff (Z.tkT T k) := (Z.ff_is hall hfree).symm
        repeat refine LS.seq ?_
        refine LS.region rfl ?_
        refine OS.pure rfl (fun _ => rfl) rfl ?_
        refine OS.pure rfl (fun _ => rfl) rfl ?_
        refine OS.pure rfl (fun _ => rfl) rfl ?_
        refine OS.read rfl (e_load 0 rfl rfl rfl rfl rfl) rfl ?_
        refine OS.pure rfl (fun _ => rfl) rfl ?_
        refine OS.at1 (j := i) (hsv) ((inz_at hy)) rfl rfl rfl rfl rfl rfl (fun ra0 oa0 rowa0 csa0 ma0 ca0 ga0 => ⟨_, rfl, ?_⟩)
        refine OS.read rfl (e_loadm ma0 ca0 rfl rfl (part_one rfl ga0)) rfl ?_
        refine OS.pure rfl (e_is (fun _ => rfl) (congrArg Value.bool hb3)) rfl ?_
        refine OS.nil ?_
        refine LS.cond rfl (fun hc => by cases hc) (fun hc => ?_)
        refine LS.skip ?_
        refine LS.seq ?_
        refine LS.mid [0, 1, 6, 7, 8] (fun a L' => L' = (x, xRow (.slice (some ⟨rh, 0, none⟩) H.length openCap) rM) :: (rM, .map es ck) :: (rh, .cells 3 (inz (setAll H (Z.tkL T k) (Z.ff T : Nat)))) :: F ∧
          a = [ptr x, txt data, .chan none, .chan none, .chan none, .chan none, .int .i64 ((n - k : Nat) : Int), .int .i64 (Z.ff T : Nat), .int .i64 (i : Nat), .chan none, .chan none, .chan none, .chan none, .chan none, .chan none, .chan none, .chan none, .chan none, .chan none, .chan none, .chan none, .chan none, .chan none, .chan none, .chan none, .chan none, .chan none, .chan none, .chan none, .chan none, .chan none, .chan none, .chan none, .chan none, .chan none, .chan none, .chan none, .chan none, .chan none, .chan none, .chan none, .chan none, .chan none, .chan none, .chan none, .chan none, .chan none]) ?_ ?_
        · rcases Nat.eq_zero_or_pos k with hk0 | hk0
          · subst hk0
            have hi0 : i = Z.ff T := hiff
            repeat refine LS.seq ?_
            refine LS.region rfl ?_
            refine OS.pure rfl (fun _ => rfl) rfl ?_
            refine OS.pure rfl (fun _ => rfl) rfl ?_
            refine OS.nil ?_
            refine LS.cond rfl (fun hc => ?_) (fun hc => by cases hc)
            repeat refine LS.seq ?_
            refine LS.region rfl ?_
            refine OS.pure rfl (fun _ => rfl) rfl ?_
            refine OS.pure rfl (fun _ => rfl) rfl ?_
            refine OS.nil ?_
            rw [← hi0]
            exact ⟨rfl, rfl⟩
          · have hidv : idV T k = (Z.ff T : Nat) := by unfold idV; rw [if_neg (by omega)]
            have hb4 : (!ileB 0 ((Z.ff T : Nat) : Int)) = false := by rw [ileB_eq]; simp
            rw [hidv]
            repeat refine LS.seq ?_
            refine LS.region rfl ?_
            refine OS.pure rfl (fun _ => rfl) rfl ?_
            refine OS.pure rfl (e_is (fun _ => rfl) (congrArg Value.bool hb4)) rfl ?_
            refine OS.nil ?_
            refine LS.cond rfl (fun hc => by cases hc) (fun hc => ?_)
            refine LS.skip ?_
            exact ⟨rfl, rfl⟩
        rintro a L' ⟨rfl, rfl⟩
        repeat refine LS.seq ?_
        refine LS.region rfl ?_
        refine OS.pure rfl (fun _ => rfl) rfl ?_
        refine OS.pure rfl (fun _ => rfl) rfl ?_
        refine OS.pure rfl (fun _ => rfl) rfl ?_
        refine OS.read rfl (e_load 0 rfl rfl rfl rfl rfl) rfl ?_
        refine OS.pure rfl (fun _ => rfl) rfl ?_
        refine OS.pure rfl (fun _ => rfl) rfl ?_
        refine OS.pure rfl (e_index (j := i) (sz := 1) rfl rfl rfl rfl rfl hin) rfl ?_
        refine OS.write rfl (e_store 2 (n := 1) rfl rfl rfl rfl rfl rfl (lay_one (by rw [List.length_map]; omega)) rfl) rfl ?_
        rw [show (inz (setAll H (Z.tkL T k) (Z.ff T : Nat))).set (0 + i * 1) (Value.int .i64 (Z.ff T : Nat)) = inz (setAll H (Z.tkL T (k + 1)) (Z.ff T : Nat)) by rw [Z.tkL_succ, setAll_snoc, ← hiff, Nat.mul_one, Nat.zero_add]; simp [List.map_set]]
        refine OS.nil ?_
        repeat refine LS.seq ?_
        refine LS.region rfl ?_
        refine OS.pure rfl (fun _ => rfl) rfl ?_
        refine OS.pure rfl (e_is (e_sub (k := .i64) (m := ((n - k : Nat) : Int)) (n := 1) rfl rfl rfl (in_i64 (by omega) (by omega))) (congrArg (Value.int .i64) (show ((n - k : Nat) : Int) - 1 = ((n - (k + 1) : Nat) : Int) by omega))) rfl ?_
        refine OS.pure rfl (fun _ => rfl) rfl ?_
        refine OS.nil ?_
        refine ⟨k + 1, by omega, fun j hj => ?_, rfl, ?_⟩
        · show Z.tkn ((Z.tkT T k).set (Z.ff (Z.tkT T k)) true) j = true
          rw [Z.tkn_set (by rw [Z.tkT_len]; exact hffk)]
          by_cases hji : j = Z.ff (Z.tkT T k)
          · rw [if_pos hji]
          · rw [if_neg hji]; exact hall j (by omega)
        · rw [show idV T (k + 1) = (Z.ff T : Nat) by unfold idV; rw [if_neg (by omega)]]
          rfl
    rintro a L' ⟨k', hk', hall', rfl, rfl⟩
    repeat refine LS.seq ?_
    refine LS.region rfl ?_
    refine OS.pure rfl (fun _ => rfl) rfl ?_
    refine OS.pure rfl (e_add rfl rfl rfl (in_i64 (by omega) (by omega))) rfl ?_
    refine OS.pure rfl (fun _ => rfl) rfl ?_
    refine OS.nil ?_
    exact ⟨H.length - (i + 1), by omega, i + 1, k', rfl, by omega, hk', hall', rfl, rfl⟩
  rintro a L' ⟨rfl, rfl⟩
  repeat refine LS.seq ?_
  refine LS.region rfl ?_
  refine OS.pure rfl (fun _ => rfl) rfl ?_
  refine OS.pure rfl (fun _ => rfl) rfl ?_
  refine OS.pure rfl (fun _ => rfl) rfl ?_
  refine OS.read rfl (e_load 0 rfl rfl rfl rfl rfl) rfl ?_
  refine OS.pure rfl (fun _ => rfl) rfl ?_
  refine OS.pure rfl (fun _ => rfl) rfl ?_
  refine OS.mapPut 1 hM rfl rfl rfl rfl rfl rfl int_keys rfl rfl (fun es' ck' hM' => ⟨_, rfl, ?_⟩)
  refine OS.nil ?_
  repeat refine LS.seq ?_
  refine LS.region rfl ?_
  refine OS.pure rfl (fun _ => rfl) rfl ?_
  refine OS.pure rfl (fun _ => rfl) rfl ?_
  refine OS.pure rfl (fun _ => rfl) rfl ?_
  refine OS.nil ?_
  refine LS.ret ⟨_, fun _ _ => rfl, ?_⟩
  exact ⟨rfl, _, ⟨.slice (some ⟨rh, 0, none⟩) H.length openCap, rM, _, es', ck', .inr ⟨rh, by rw [setAll_len], by rw [List.length_map, setAll_len, Nat.mul_one], rfl⟩, hM', rfl⟩, rfl⟩
end Go.Proofs.Yteiiekfccecoiaa
