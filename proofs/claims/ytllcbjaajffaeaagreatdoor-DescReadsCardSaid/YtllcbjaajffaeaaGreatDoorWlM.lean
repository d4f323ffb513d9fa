import Derived.Test.YtllcbjaajffaeaaGreatDoorWkw
namespace Go.Am
section
variable {P : Program} {o : Oper} {a : Slots} {L L₁ : RL} {x y : Operand} {t : TypeId}
theorem SV.one {sz n : Nat} {v : Value} {cs : List Value} (h : SV sz L v n cs) : isJ v = false ∧ v.cells.toList = [v] := by
  rcases h with ⟨rfl, rfl, rfl⟩ | ⟨r, off, cap, row, cs₀, rfl, _⟩ <;> exact ⟨rfl, rfl⟩
theorem e_box {v : Value} (ho : o.op = .box t x) (hx : aev a x = some v) (hj : isJ v = false ∧ v.cells.toList = [v]) (hs : (sizeB P t).isSome = true) : ∀ h, Has h L → ∃ r h₁, opB P a o h = some (.val (ptrTo r) h₁) ∧ Has h₁ ((r, .cells t [v]) :: L) :=
  e_new (fun _ => by simp only [opB, ho, hx, hj.1, hj.2]) hs
end
end Go.Am
namespace Go.Proofs.YtllcbjaajffaeaaGreatDoor
open Go.Am
set_option linter.unusedVariables false
set_option maxRecDepth 20000
def jn (acc : List UInt8) (first : Bool) : List (List UInt8) → Option (List UInt8)
  | [] => some acc
  | w :: ws => if ((if first then acc else acc ++ [32]) ++ ownF w).length ≤ 400 then jn ((if first then acc else acc ++ [32]) ++ ownF w) false ws else none
def joinW (ws : List (List UInt8)) : Option (List UInt8) := jn [] true ws
theorem ownF_ne (w : List UInt8) : ownF w ≠ [] := by
  unfold ownF
  split
  · cases w with
    | nil => rename_i h; cases h
    | cons c w => simp
  · simp
theorem build2_ct {X : RL} {Q : List UInt8 → RL → Prop} {lf : Nat} {cap : List Value} (hf : ∀ b, CS Tryz.prog lf (ptr b :: cap) ((b, bu (.pointer none) (.slice none 0 0)) :: X) fun v L' => ∃ bs X', bs.length ≤ 100000000 ∧ Q bs X' ∧ BD b bs X' L') :
    CS Tryz.prog 166 [.func (.func lf) #[] ⟨cap⟩] X fun v L' => ∃ bs, Q bs L' ∧ v = str bs := by
  refine CS.mk (fn := Tryz.f166) rfl rfl rfl rfl ?_
  repeat refine LS.seq ?_
  refine LS.region rfl ?_
  refine OS.pure rfl (fun _ => rfl) rfl ?_
  refine OS.nil ?_
  repeat refine LS.seq ?_
  refine LS.region rfl ?_
  refine OS.fresh rfl (e_new (fun _ => rfl) rfl) (fun _ => rfl) (fun b => ?_)
  refine OS.nil ?_
  repeat refine LS.seq ?_
  refine LS.region rfl ?_
  refine OS.pure rfl (fun _ => rfl) rfl ?_
  refine OS.call noGo rfl (fun _ => rfl) ((hf b).mono ?_)
  rintro v L' ⟨bs, X', hn, hq, hB⟩
  refine ⟨_, rfl, ?_⟩
  refine OS.nil ?_
  repeat refine LS.seq ?_
  refine LS.region rfl ?_
  refine OS.call noGo rfl (fun _ => rfl) ((String_ct hB hn).mono ?_)
  rintro v L₁ ⟨rfl, rfl⟩
  refine ⟨_, rfl, ?_⟩
  refine OS.pure rfl (fun _ => rfl) rfl ?_
  refine OS.nil ?_
  refine LS.ret ⟨_, fun _ _ => rfl, ?_⟩
  exact ⟨bs, hq, rfl⟩
abbrev JX (rf rw : Nat) (b : Bool) (v : Value) (L : RL) : RL := (rf, .cells 4 [.bool b]) :: (rw, .cells 68 [v]) :: L
theorem join1_ct {L : RL} {b rf rw : Nat} {v : Value} {ws : List (List UInt8)} (hv : SV 1 L v ws.length (strs ws)) (hn : ws.length ≤ 9000000000000000) (hw : ∀ w ∈ ws, w.length ≤ 9000000000000000) :
    CS Tryz.prog 167 [ptr b, ptr rw, ptr rf] ((b, bu (.pointer none) (.slice none 0 0)) :: JX rf rw true v L) fun _ L' => ∃ bs X', bs.length ≤ 100000000 ∧ ((∃ line, joinW ws = some line ∧ bs = line ∧ X' = JX rf rw true v L) ∨ (joinW ws = none ∧ X' = JX rf rw false v L)) ∧ BD b bs X' L' := by
  have hv1 : SV 1 ((b, bu (.pointer none) (.slice none 0 0)) :: JX rf rw true v L) v ws.length (strs ws) := hv.mono fun p hp => by simp [hp]
  refine CS.mk (fn := Tryz.f167) rfl rfl rfl rfl ?_
  repeat refine LS.seq ?_
  refine LS.region rfl ?_
  refine OS.read rfl (e_load 2 rfl rfl rfl rfl rfl) rfl ?_
  refine OS.pure rfl (e_len hv1 rfl rfl rfl rfl rfl) rfl ?_
  refine OS.pure rfl (fun _ => rfl) rfl ?_
  refine OS.nil ?_
  repeat refine LS.seq ?_
  refine LS.block ?_
  refine LS.loopJ [0, 1, 2, 6, 7, 8] (fun q a L' => ∃ (j : Nat) (acc : List UInt8), q = ws.length - j ∧ j ≤ ws.length ∧ acc.length ≤ 400 ∧ joinW ws = jn acc (j == 0) (ws.drop j) ∧ BD b acc (JX rf rw true v L) L' ∧ a = [ptr b, ptr rw, ptr rf, .chan none, .chan none, .chan none, v, .int .i64 (ws.length : Nat), .int .i64 (j : Nat), .chan none, .chan none, .chan none, .chan none, .chan none, .chan none, .chan none, .chan none, .chan none, .chan none, .chan none, .chan none, .chan none, .chan none]) (n := ws.length) rfl ⟨0, [], rfl, by omega, by simp, rfl, .inl ⟨rfl, rfl⟩, rfl⟩ ?_
  rintro q a L' ⟨j, acc, rfl, hj, ha, hjn, hB, rfl⟩
  repeat refine LS.seq ?_
  refine LS.region rfl ?_
  refine OS.pure rfl (fun _ => rfl) rfl ?_
  refine OS.nil ?_
  repeat refine LS.seq ?_
  refine LS.cond rfl (fun hc => ?_) (fun hc => ?_)
  · have hc : (j : Int) < ws.length := lt_of hc
    have hjl : j < ws.length := by omega
    have hd : ws.drop j = ws[j] :: ws.drop (j + 1) := List.drop_eq_getElem_cons hjl
    have hmem : ws[j] ∈ ws := List.getElem_mem hjl
    have hget : (strs ws)[j]? = some (str (ws[j]'hjl)) := by simp [strs, hjl]
    generalize ws[j] = w at hd hmem hget
    have hwl := hw w hmem
    have hv2 : SV 1 L' v ws.length (strs ws) := hv.mono fun p hp => hB.mem p (by simp [hp])
    refine LS.skip ?_
    repeat refine LS.seq ?_
    refine LS.block ?_
    repeat refine LS.seq ?_
    refine LS.region rfl ?_
    refine OS.pure rfl (fun _ => rfl) rfl ?_
    refine OS.at1 hv2 hget rfl rfl rfl rfl rfl rfl (fun r off row cs₀ m1 m2 m3 => ⟨_, rfl, ?_⟩)
    refine OS.read rfl (e_loadm m1 m2 rfl rfl (part_one rfl m3)) rfl ?_
    refine OS.pure rfl (fun _ => rfl) rfl ?_
    refine OS.pure rfl (fun _ => rfl) rfl ?_
    refine OS.nil ?_
    repeat refine LS.seq ?_
    refine LS.region rfl ?_
    refine OS.pure rfl (fun _ => rfl) rfl ?_
    refine OS.pure rfl (fun _ => rfl) rfl ?_
    refine OS.nil ?_
    refine LS.mid [0, 1, 2, 5, 6, 7, 8] (fun a L' => BD b (if (j == 0) = true then acc else acc ++ [32]) (JX rf rw true v L) L' ∧ a = [ptr b, ptr rw, ptr rf, .chan none, .chan none, str w, v, .int .i64 (ws.length : Nat), .int .i64 (j : Nat), .chan none, .chan none, .chan none, .chan none, .chan none, .chan none, .chan none, .chan none, .chan none, .chan none, .chan none, .chan none, .chan none, .chan none]) ?_ ?_
    · repeat refine LS.seq ?_
      refine LS.cond rfl (fun h0 => ?_) (fun h0 => ?_)
      · have h0 : (0 : Int) < j := lt_of h0
        have hz : (j == 0) = false := by simp; omega
        repeat refine LS.seq ?_
        refine LS.region rfl ?_
        refine OS.pure rfl (fun _ => rfl) rfl ?_
        refine OS.call noGo rfl (fun _ => rfl) ((WriteByte_ct 32 hB (by omega)).mono ?_)
        rintro v' L₂ ⟨rfl, hB2⟩
        refine ⟨_, rfl, ?_⟩
        refine OS.nil ?_
        exact ⟨by rw [hz]; exact hB2, rfl⟩
      · have h0 : (j : Int) ≤ 0 := nlt_of h0
        have hz : (j == 0) = true := by simp; omega
        refine LS.skip ⟨?_, rfl⟩
        rw [hz]; exact hB
    rintro a L₂ ⟨hB2, rfl⟩
    have hal : (if (j == 0) = true then acc else acc ++ [32]).length ≤ 401 := by
      split
      · omega
      · rw [List.length_append]; simp only [List.length_cons, List.length_nil]; omega
    rw [hd] at hjn
    simp only [jn] at hjn
    generalize (if (j == 0) = true then acc else acc ++ [32]) = ac at hB2 hal hjn
    repeat refine LS.seq ?_
    refine LS.region rfl ?_
    refine OS.pure rfl (fun _ => rfl) rfl ?_
    refine OS.pure rfl (fun _ => rfl) rfl ?_
    refine OS.call noGo rfl (fun _ => rfl) ((addForm_ct w hB2 (by omega) hwl).mono ?_)
    rintro v' L₃ (⟨h4, rfl, hB3⟩ | ⟨h4, rfl, bs', hb', hB3⟩)
    · rw [if_pos h4] at hjn
      have hne : ac ++ ownF w ≠ [] := by simp [ownF_ne]
      rcases hB3 with ⟨h0, _⟩ | ⟨_, r, rfl⟩
      · exact absurd h0 hne
      refine ⟨_, rfl, ?_⟩
      refine OS.write rfl (e_store 2 rfl rfl rfl rfl rfl rfl rfl rfl) rfl ?_
      refine OS.nil ?_
      repeat refine LS.seq ?_
      refine LS.region rfl ?_
      refine OS.read rfl (e_load 2 rfl rfl rfl rfl rfl) rfl ?_
      refine OS.pure rfl (fun _ => rfl) rfl ?_
      refine OS.nil ?_
      repeat refine LS.seq ?_
      refine LS.cond rfl (fun h => ?_) (fun h => ?_)
      · cases h
      refine LS.skip ?_
      repeat refine LS.seq ?_
      refine LS.region rfl ?_
      refine OS.pure rfl (e_add (m := (j : Int)) (n := 1) rfl rfl rfl (in_i64 (by omega) (by omega))) rfl ?_
      rw [show ((j : Nat) : Int) + 1 = ((j + 1 : Nat) : Int) by omega]
      refine OS.pure rfl (fun _ => rfl) rfl ?_
      refine OS.nil ?_
      exact ⟨ws.length - (j + 1), by omega, j + 1, _, rfl, by omega, h4, by rw [hjn]; rfl, .inr ⟨hne, r, rfl⟩, rfl⟩
    · rw [if_neg h4] at hjn
      rcases hB3 with ⟨h0, rfl⟩ | ⟨h0, r, rfl⟩
      · refine ⟨_, rfl, ?_⟩
        refine OS.write rfl (e_store 1 rfl rfl rfl rfl rfl rfl rfl rfl) rfl ?_
        refine OS.nil ?_
        repeat refine LS.seq ?_
        refine LS.region rfl ?_
        refine OS.read rfl (e_load 1 rfl rfl rfl rfl rfl) rfl ?_
        refine OS.pure rfl (fun _ => rfl) rfl ?_
        refine OS.nil ?_
        repeat refine LS.seq ?_
        refine LS.cond rfl (fun h => ?_) (fun h => ?_)
        · refine LS.ret ⟨_, fun _ _ => rfl, ?_⟩
          exact ⟨bs', _, by omega, .inr ⟨hjn, rfl⟩, .inl ⟨h0, rfl⟩⟩
        · cases h
      · refine ⟨_, rfl, ?_⟩
        refine OS.write rfl (e_store 2 rfl rfl rfl rfl rfl rfl rfl rfl) rfl ?_
        refine OS.nil ?_
        repeat refine LS.seq ?_
        refine LS.region rfl ?_
        refine OS.read rfl (e_load 2 rfl rfl rfl rfl rfl) rfl ?_
        refine OS.pure rfl (fun _ => rfl) rfl ?_
        refine OS.nil ?_
        repeat refine LS.seq ?_
        refine LS.cond rfl (fun h => ?_) (fun h => ?_)
        · refine LS.ret ⟨_, fun _ _ => rfl, ?_⟩
          exact ⟨bs', _, by omega, .inr ⟨hjn, rfl⟩, .inr ⟨h0, r, rfl⟩⟩
        · cases h
  · have hc : (ws.length : Int) ≤ j := nlt_of hc
    rw [List.drop_eq_nil_of_le (by omega)] at hjn
    refine LS.exit ?_
    refine ⟨_, fun _ _ => rfl, acc, _, by omega, .inl ⟨acc, hjn, rfl, rfl⟩, hB⟩
def joinV (ws : List (List UInt8)) : Value := match joinW ws with
  | some line => .tuple #[str line, .int .i64 0]
  | none => .tuple #[str [], .int .i64 40]
theorem Join_ct {L : RL} {v : Value} {ws : List (List UInt8)} (hv : SV 1 L v ws.length (strs ws)) (hn : ws.length ≤ 9000000000000000) (hw : ∀ w ∈ ws, w.length ≤ 9000000000000000) :
    CS Tryz.prog 143 [v] L fun u L' => u = joinV ws ∧ L' = L := by
  suffices h : CS Tryz.prog 143 [v] L fun u L' => u = joinV ws ∧ ∃ x y, L' = x :: y :: L by
    exact h.less fun u L' ⟨h1, x, y, h2⟩ => ⟨L, by rw [h2]; exact ⟨[x, y], by simpa using (List.perm_append_comm (l₁ := [x, y]) (l₂ := L))⟩, h1, rfl⟩
  refine CS.mk (fn := Tryz.f143) rfl rfl rfl rfl ?_
  repeat refine LS.seq ?_
  refine LS.region rfl ?_
  refine OS.fresh rfl (e_box rfl rfl hv.one rfl) (fun _ => rfl) (fun rw => ?_)
  refine OS.pure rfl (fun _ => rfl) rfl ?_
  refine OS.pure rfl (fun _ => rfl) rfl ?_
  refine OS.nil ?_
  repeat refine LS.seq ?_
  refine LS.region rfl ?_
  refine OS.fresh rfl (e_new (fun _ => rfl) rfl) (fun _ => rfl) (fun rf => ?_)
  refine OS.write rfl (e_store 0 rfl rfl rfl rfl rfl rfl rfl rfl) rfl ?_
  refine OS.nil ?_
  repeat refine LS.seq ?_
  refine LS.region rfl ?_
  refine OS.pure rfl (fun _ => rfl) rfl ?_
  refine OS.call noGo rfl (fun _ => rfl) ((build2_ct (Q := fun bs X' => (∃ line, joinW ws = some line ∧ bs = line ∧ X' = JX rf rw true v L) ∨ (joinW ws = none ∧ X' = JX rf rw false v L)) (fun b => join1_ct (b := b) (rf := rf) (rw := rw) hv hn hw)).mono ?_)
  rintro u L' ⟨bs, hq, rfl⟩
  rcases hq with ⟨line, h1, rfl, rfl⟩ | ⟨h1, rfl⟩
  · have hj : joinV ws = .tuple #[str bs, .int .i64 0] := by unfold joinV; rw [h1]
    refine ⟨_, rfl, ?_⟩
    refine OS.pure rfl (fun _ => rfl) rfl ?_
    refine OS.nil ?_
    repeat refine LS.seq ?_
    refine LS.region rfl ?_
    refine OS.read rfl (e_load 0 rfl rfl rfl rfl rfl) rfl ?_
    refine OS.pure rfl (fun _ => rfl) rfl ?_
    refine OS.nil ?_
    repeat refine LS.seq ?_
    refine LS.cond rfl (fun h => ?_) (fun h => ?_)
    · cases h
    refine LS.skip ?_
    repeat refine LS.seq ?_
    refine LS.region rfl ?_
    refine OS.pure rfl (fun _ => rfl) rfl ?_
    refine OS.pure rfl (fun _ => rfl) rfl ?_
    refine OS.pure rfl (fun _ => rfl) rfl ?_
    refine OS.nil ?_
    refine LS.ret ⟨_, fun _ _ => rfl, ?_⟩
    exact ⟨by rw [hj]; rfl, _, _, rfl⟩
  · have hj : joinV ws = .tuple #[str [], .int .i64 40] := by unfold joinV; rw [h1]
    refine ⟨_, rfl, ?_⟩
    refine OS.pure rfl (fun _ => rfl) rfl ?_
    refine OS.nil ?_
    repeat refine LS.seq ?_
    refine LS.region rfl ?_
    refine OS.read rfl (e_load 0 rfl rfl rfl rfl rfl) rfl ?_
    refine OS.pure rfl (fun _ => rfl) rfl ?_
    refine OS.nil ?_
    repeat refine LS.seq ?_
    refine LS.cond rfl (fun h => ?_) (fun h => ?_)
    · repeat refine LS.seq ?_
      refine LS.region rfl ?_
      refine OS.pure rfl (fun _ => rfl) rfl ?_
      refine OS.pure rfl (fun _ => rfl) rfl ?_
      refine OS.nil ?_
      refine LS.ret ⟨_, fun _ _ => rfl, ?_⟩
      exact ⟨by rw [hj]; rfl, _, _, rfl⟩
    · cases h
end Go.Proofs.YtllcbjaajffaeaaGreatDoor
namespace Go.Proofs.YtllcbjaajffaeaaGreatDoor
open Go.Am
set_option linter.unusedVariables false
set_option maxRecDepth 20000
def wordsOf (s : List UInt8) : List (List UInt8) := if s.length > 400 then [] else (splitW s).getD []
def errOf (s : List UInt8) : Int := if s.length > 400 then 40 else if splitW s = none then 4 else 0
def SQ (s : List UInt8) (L : RL) (v : Value) (L' : RL) : Prop := ∃ u, v = .tuple #[u, .int .i64 (errOf s)] ∧ GV 9 1 L u (wordsOf s).length (strs (wordsOf s)) L'
theorem SP.sq {s : List UInt8} {L L' : RL} {v : Value} (h : SP s L v L') : SQ s L v L' := by
  unfold SQ wordsOf errOf
  rcases h with ⟨h1, rfl, rfl⟩ | ⟨h1, h2, rfl, rfl⟩ | ⟨h1, ws, u, h2, rfl, hg⟩
  · rw [if_pos h1, if_pos h1]
    exact ⟨_, rfl, GV.nil⟩
  · have h0 : ¬ s.length > 400 := by omega
    rw [if_neg h0, if_neg h0, if_pos h2, h2]
    exact ⟨_, rfl, GV.nil⟩
  · have h0 : ¬ s.length > 400 := by omega
    have h3 : ¬ splitW s = none := by rw [h2]; simp
    rw [if_neg h0, if_neg h0, if_neg h3, h2]
    exact ⟨_, rfl, hg⟩
theorem Split_ct {L : RL} (s : List UInt8) (hs : s.length ≤ 9000000000000000) : CS Tryz.prog 96 [str s] L fun v L' => SQ s L v L' := by
  suffices h : CS Tryz.prog 96 [str s] L fun v L' => ∃ rm, SQ s (dg rm L) v L' by
    refine h.less fun v L' ⟨rm, u, h1, hg⟩ => ?_
    rcases hg with ⟨h2, h3, h4, rfl⟩ | ⟨r, h2, h3, rfl⟩
    · exact ⟨L, Sub.tail, u, h1, .inl ⟨h2, h3, h4, rfl⟩⟩
    · exact ⟨_, ⟨[(rm, .map (digE 16) 16)], List.Perm.cons _ (List.perm_append_comm (l₁ := [(rm, .map (digE 16) 16)]) (l₂ := L))⟩, u, h1, .inr ⟨r, h2, h3, rfl⟩⟩
  refine CS.mk (fn := Tryz.f96) rfl rfl rfl rfl ?_
  repeat refine LS.seq ?_
  refine LS.region rfl ?_
  refine OS.pure rfl (fun _ => rfl) rfl ?_
  refine OS.pure rfl (fun _ => rfl) rfl ?_
  refine OS.nil ?_
  repeat refine LS.seq ?_
  refine LS.region rfl ?_
  refine OS.pure rfl (fun _ => rfl) rfl ?_
  refine OS.call noGo rfl (fun _ => rfl) ((digits_ct).mono ?_)
  rintro v L' ⟨rm, rfl, rfl⟩
  refine ⟨_, rfl, ?_⟩
  refine OS.call noGo rfl (fun _ => rfl) ((split_ct (List.mem_cons_self ..) s hs).mono ?_)
  rintro v L₁ h
  obtain ⟨u, rfl, hg⟩ := h.sq
  refine ⟨_, rfl, ?_⟩
  refine OS.pure rfl (fun _ => rfl) rfl ?_
  refine OS.pure rfl (fun _ => rfl) rfl ?_
  refine OS.pure rfl (fun _ => rfl) rfl ?_
  refine OS.pure rfl (fun _ => rfl) rfl ?_
  refine OS.nil ?_
  refine LS.ret ⟨_, fun _ _ => rfl, ?_⟩
  exact ⟨rm, u, rfl, hg⟩
theorem strs_at {A : List (List UInt8)} {j : Nat} (h : j < A.length) : (strs A)[j]? = some (str (A[j]'h)) := by simp [strs, h]
theorem Same_ct {L : RL} {v1 v2 : Value} {A B : List (List UInt8)} (h1 : SV 1 L v1 A.length (strs A)) (h2 : SV 1 L v2 B.length (strs B)) (hA : A.length ≤ 9000000000000000) : CS Tryz.prog 63 [v1, v2] L fun v L' => v = .bool (decide (A = B)) ∧ L' = L := by
  by_cases hl : A.length = B.length
  · have bl : (!ieqB (A.length : Int) (B.length : Nat)) = false := by rw [ieqB_eq]; simp [hl]
    refine CS.mk (fn := Tryz.f63) rfl rfl rfl rfl ?_
    repeat refine LS.seq ?_
    refine LS.region rfl ?_
    refine OS.pure rfl (fun _ => rfl) rfl ?_
    refine OS.nil ?_
    repeat refine LS.seq ?_
    refine LS.region rfl ?_
    refine OS.pure rfl (fun _ => rfl) rfl ?_
    refine OS.pure rfl (e_len h1 rfl rfl rfl rfl rfl) rfl ?_
    refine OS.pure rfl (fun _ => rfl) rfl ?_
    refine OS.pure rfl (e_len h2 rfl rfl rfl rfl rfl) rfl ?_
    refine OS.pure rfl (e_is (fun _ => rfl) (congrArg Value.bool bl)) rfl ?_
    refine OS.nil ?_
    repeat refine LS.seq ?_
    refine LS.cond rfl (fun h => ?_) (fun h => ?_)
    · cases h
    refine LS.skip ?_
    repeat refine LS.seq ?_
    refine LS.region rfl ?_
    refine OS.pure rfl (fun _ => rfl) rfl ?_
    refine OS.nil ?_
    repeat refine LS.seq ?_
    refine LS.block ?_
    refine LS.loopJ [0, 1, 5] (fun q a L' => ∃ j : Nat, q = A.length - j ∧ j ≤ A.length ∧ A.take j = B.take j ∧ L' = L ∧ a = [v1, v2, .chan none, .chan none, .chan none, .int .i64 (j : Nat), .chan none, .chan none, .chan none, .chan none, .chan none, .chan none, .chan none, .chan none, .chan none, .chan none, .chan none, .chan none, .chan none, .chan none, .chan none, .chan none, .chan none, .chan none, .chan none, .chan none]) (n := A.length) rfl ⟨0, rfl, by omega, rfl, rfl, rfl⟩ ?_
    rintro q a L' ⟨j, rfl, hj, ht, rfl, rfl⟩
    repeat refine LS.seq ?_
    refine LS.region rfl ?_
    refine OS.pure rfl (fun _ => rfl) rfl ?_
    refine OS.pure rfl (fun _ => rfl) rfl ?_
    refine OS.pure rfl (e_len h1 rfl rfl rfl rfl rfl) rfl ?_
    refine OS.pure rfl (fun _ => rfl) rfl ?_
    refine OS.nil ?_
    repeat refine LS.seq ?_
    refine LS.cond rfl (fun hc => ?_) (fun hc => ?_)
    · have hc : (j : Int) < A.length := lt_of hc
      have hjA : j < A.length := by omega
      have hjB : j < B.length := by omega
      refine LS.skip ?_
      repeat refine LS.seq ?_
      refine LS.block ?_
      repeat refine LS.seq ?_
      refine LS.drawn noGo mixed [(0, false), (1, false), (2, false), (3, false), (4, false), (5, false), (6, false), (7, false), (8, false)] rfl rfl (by kernel_rfl) ?_
      refine ODS.pure rfl rfl (fun _ => rfl) rfl ?_
      refine ODS.pure rfl rfl (fun _ => rfl) rfl ?_
      refine ODS.at1 h1 (strs_at hjA) rfl rfl rfl rfl rfl rfl rfl (fun r off row cs₀ m1 m2 m3 => ⟨_, rfl, ?_⟩)
      refine ODS.read rfl rfl (e_loadm m1 m2 rfl rfl (part_one rfl m3)) rfl ?_
      refine ODS.pure rfl rfl (fun _ => rfl) rfl ?_
      refine ODS.pure rfl rfl (fun _ => rfl) rfl ?_
      refine ODS.at1 h2 (strs_at hjB) rfl rfl rfl rfl rfl rfl rfl (fun r' off' row' cs' m1' m2' m3' => ⟨_, rfl, ?_⟩)
      refine ODS.read rfl rfl (e_loadm m1' m2' rfl rfl (part_one rfl m3')) rfl ?_
      refine ODS.pure rfl rfl (fun _ => rfl) rfl ?_
      refine ODS.nil ?_
      repeat refine LS.seq ?_
      refine LS.cond rfl (fun he => ?_) (fun he => ?_)
      · have he : (!bytesEq (A[j]'hjA) (B[j]'hjB)) = true := he
        rw [bytesEq_eq] at he
        have he : A[j]'hjA ≠ B[j]'hjB := by simpa using he
        repeat refine LS.seq ?_
        refine LS.region rfl ?_
        refine OS.pure rfl (fun _ => rfl) rfl ?_
        refine OS.nil ?_
        refine LS.ret ⟨_, fun _ _ => rfl, ?_⟩
        refine ⟨?_, rfl⟩
        have : A ≠ B := fun e => he (by subst e; rfl)
        simp [tupleB, this]
      have he : (!bytesEq (A[j]'hjA) (B[j]'hjB)) = false := he
      rw [bytesEq_eq] at he
      have he : A[j]'hjA = B[j]'hjB := by simpa using he
      refine LS.skip ?_
      repeat refine LS.seq ?_
      refine LS.region rfl ?_
      refine OS.pure rfl (fun _ => rfl) rfl ?_
      refine OS.pure rfl (e_add (m := (j : Int)) (n := 1) rfl rfl rfl (in_i64 (by omega) (by omega))) rfl ?_
      rw [show ((j : Nat) : Int) + 1 = ((j + 1 : Nat) : Int) by omega]
      refine OS.pure rfl (fun _ => rfl) rfl ?_
      refine OS.nil ?_
      exact ⟨A.length - (j + 1), by omega, j + 1, rfl, by omega, by rw [List.take_add_one, List.take_add_one, ht, List.getElem?_eq_getElem hjA, List.getElem?_eq_getElem hjB, he], rfl, rfl⟩
    · have hc : (A.length : Int) ≤ j := nlt_of hc
      rw [List.take_of_length_le (by omega), List.take_of_length_le (by omega)] at ht
      refine LS.exit ?_
      repeat refine LS.seq ?_
      refine LS.region rfl ?_
      refine OS.pure rfl (fun _ => rfl) rfl ?_
      refine OS.nil ?_
      refine LS.ret ⟨_, fun _ _ => rfl, ?_⟩
      exact ⟨by simp [tupleB, ht], rfl⟩
  · have bl : (!ieqB (A.length : Int) (B.length : Nat)) = true := by rw [ieqB_eq]; simp; omega
    have hne : A ≠ B := fun e => hl (by rw [e])
    refine CS.mk (fn := Tryz.f63) rfl rfl rfl rfl ?_
    repeat refine LS.seq ?_
    refine LS.region rfl ?_
    refine OS.pure rfl (fun _ => rfl) rfl ?_
    refine OS.nil ?_
    repeat refine LS.seq ?_
    refine LS.region rfl ?_
    refine OS.pure rfl (fun _ => rfl) rfl ?_
    refine OS.pure rfl (e_len h1 rfl rfl rfl rfl rfl) rfl ?_
    refine OS.pure rfl (fun _ => rfl) rfl ?_
    refine OS.pure rfl (e_len h2 rfl rfl rfl rfl rfl) rfl ?_
    refine OS.pure rfl (e_is (fun _ => rfl) (congrArg Value.bool bl)) rfl ?_
    refine OS.nil ?_
    repeat refine LS.seq ?_
    refine LS.cond rfl (fun h => ?_) (fun h => ?_)
    · repeat refine LS.seq ?_
      refine LS.region rfl ?_
      refine OS.pure rfl (fun _ => rfl) rfl ?_
      refine OS.nil ?_
      refine LS.ret ⟨_, fun _ _ => rfl, ?_⟩
      exact ⟨by simp [tupleB, hne], rfl⟩
    · cases h
end Go.Proofs.YtllcbjaajffaeaaGreatDoor
namespace Go.Proofs.YtllcbjaajffaeaaGreatDoor
open Go.Am
set_option linter.unusedVariables false
set_option maxRecDepth 20000
theorem hexC_N {n : Nat} (h : n < 16) : hexN (hexC n).toNat = some n := by
  have : ∀ i : Fin 16, hexN (hexC i.val).toNat = some i.val := by decide
  exact this ⟨n, h⟩
theorem mark_own (c : UInt8) (u : List UInt8) : markK (markE c ++ u) = (c, (markE c).length) := by
  have hcl := c.toNat_lt
  unfold markE
  split
  · rename_i h
    simp only [List.cons_append, List.nil_append, markK, escK]
    rw [if_pos (by decide), if_neg (by decide), if_pos trivial, if_pos h]
    rfl
  · rename_i h1
    split
    · rename_i h; subst h
      simp only [List.cons_append, List.nil_append, markK, escK]
      rfl
    · rename_i h2
      split
      · rename_i h; subst h
        simp only [List.cons_append, List.nil_append, markK, escK]
        rfl
      · rename_i h3
        split
        · rename_i h4
          have h34 : c ≠ 34 := fun e => h1 (.inl e)
          have h92 : c ≠ 92 := fun e => h1 (.inr e)
          simp only [List.cons_append, List.nil_append, markK, h4, if_true, if_neg h34, if_neg h92]
          rfl
        · simp only [List.cons_append, List.nil_append, markK, escK]
          rw [if_pos (by decide), if_neg (by decide), if_pos trivial, if_neg (by decide), if_neg (by decide), if_neg (by decide), if_pos trivial]
          simp only [hexK, hexC_N (show c.toNat / 16 < 16 by omega), hexC_N (show c.toNat % 16 < 16 by omega)]
          rw [show 16 * (c.toNat / 16) + c.toNat % 16 = c.toNat by omega, UInt8.ofNat_toNat]
          rfl
theorem marks_own (u : List UInt8) : ∀ w : List UInt8, tk markK (w.flatMap markE ++ 34 :: u) = (w, (w.flatMap markE).length)
  | [] => by
    rw [tk_stop]
    · rfl
    · simp [markK]
  | c :: w => by
    have h := mark_own c (w.flatMap markE ++ 34 :: u)
    have hl := (markE_len c).1
    rw [List.flatMap_cons, List.append_assoc, tk_more mark_sane (by rw [h]; simp only []; omega), h]
    simp only [List.drop_left, marks_own u w, List.length_append]
def endB (u : List UInt8) : Prop := u = [] ∨ ∃ e v, u = e :: v ∧ isBl e = true
theorem plain_own {u : List UInt8} (hu : endB u) : ∀ w : List UInt8, w.all isP = true → tk plainK (w ++ u) = (w, w.length)
  | [], _ => by
    rw [tk_stop]
    · rfl
    · rcases hu with rfl | ⟨e, v, rfl, he⟩
      · rfl
      · simp [plainK, blank_not he]
  | c :: w, h => by
    simp only [List.all_cons, Bool.and_eq_true] at h
    have hk : plainK ((c :: w) ++ u) = (c, 1) := by simp [plainK, h.1]
    rw [tk_more plain_sane (by rw [hk]; simp), hk]
    simp only [List.cons_append, List.drop_succ_cons, List.drop_zero, plain_own hu w h.2, List.length_cons]
    rw [Nat.add_comm]
theorem own_word {u : List UInt8} (hu : endB u) (w : List UInt8) : ∃ c t, ownF w ++ u = c :: t ∧ c ≠ 35 ∧ isBl c = false ∧ wordK (c :: t) = (w, (ownF w).length) ∧ (c :: t).drop (ownF w).length = u := by
  by_cases hp : ownP w = true
  · have hf : ownF w = w := by simp [ownF, hp]
    cases w with
    | nil => cases hp
    | cons c w =>
      simp only [ownP, Bool.and_eq_true] at hp
      obtain ⟨h1, h2⟩ := hp
      have h35 : c ≠ 35 := by simpa using h1
      have hc : isP c = true := by simp only [List.all_cons, Bool.and_eq_true] at h2; exact h2.1
      have hb : isBl c = false := by
        cases hb : isBl c with
        | false => rfl
        | true => rw [blank_not hb] at hc; cases hc
      have h34 : c ≠ 34 := by rintro rfl; cases hc
      refine ⟨c, w ++ u, by rw [hf]; rfl, h35, hb, ?_, by rw [hf]; exact List.drop_left (l₁ := c :: w)⟩
      have := plain_own hu (c :: w) h2
      simp only [wordK, if_neg h34, hf]
      exact this
  · have hf : ownF w = [34] ++ w.flatMap markE ++ [34] := by simp [ownF, hp]
    have hm := marks_own u w
    have e1 : ownF w ++ u = 34 :: (w.flatMap markE ++ 34 :: u) := by rw [hf]; simp
    refine ⟨34, _, e1, by decide, rfl, ?_, by rw [← e1]; exact List.drop_left⟩
    simp only [wordK, if_true, hm, List.drop_left, List.head?_cons]
    rw [hf]; simp
theorem own_dw {u : List UInt8} (hu : endB u) (w : List UInt8) : (ownF w ++ u).dropWhile isBl = ownF w ++ u := by
  obtain ⟨c, t, h1, _, h2, _⟩ := own_word hu w
  rw [h1, dw_not h2]
theorem own_split {u : List UInt8} (hu : endB u) (w : List UInt8) : splitW (ownF w ++ u) = (splitW u).map (w :: ·) := by
  obtain ⟨c, t, h1, h35, hb, hk, hd⟩ := own_word hu w
  unfold splitW
  rw [own_dw hu, h1, ref_more h35 hk (by rw [hd]; exact hu), hd]
  rfl
def tails (ws : List (List UInt8)) : List UInt8 := ws.flatMap fun w => 32 :: ownF w
theorem tails_end {u : List UInt8} (hu : endB u) : ∀ ws, endB (tails ws ++ u)
  | [] => hu
  | w :: ws => .inr ⟨32, _, rfl, rfl⟩
theorem splitW_blank {c : UInt8} (h : isBl c = true) (u : List UInt8) : splitW (c :: u) = splitW u := by
  unfold splitW
  rw [List.dropWhile_cons, if_pos h]
theorem tails_split {u : List UInt8} (hu : endB u) : ∀ ws, splitW (tails ws ++ u) = (splitW u).map (ws ++ ·)
  | [] => by simp [tails]
  | w :: ws => by
    have e : tails (w :: ws) ++ u = 32 :: (ownF w ++ (tails ws ++ u)) := by simp [tails]
    rw [e, splitW_blank rfl, own_split (tails_end hu ws), tails_split hu ws]
    cases splitW u <;> simp
def lineW : List (List UInt8) → List UInt8
  | [] => []
  | w :: ws => ownF w ++ tails ws
theorem line_split {u : List UInt8} (hu : endB u) : ∀ ws, splitW (lineW ws ++ u) = (splitW u).map (ws ++ ·)
  | [] => by simp [lineW]
  | w :: ws => by
    rw [lineW, List.append_assoc, own_split (tails_end hu ws), tails_split hu ws]
    cases splitW u <;> simp
theorem jn_rest : ∀ (ws : List (List UInt8)) (acc s : List UInt8), jn acc false ws = some s → s = acc ++ tails ws ∧ (acc.length ≤ 400 → s.length ≤ 400)
  | [], acc, s, h => by simp [jn] at h; subst h; simp [tails]
  | w :: ws, acc, s, h => by
    simp only [jn, Bool.false_eq_true, if_false] at h
    split at h
    · rename_i hl
      obtain ⟨h1, h2⟩ := jn_rest ws _ _ h
      refine ⟨?_, fun _ => h2 hl⟩
      rw [h1]; simp [tails]
    · cases h
theorem joinW_eq {ws : List (List UInt8)} {s : List UInt8} (h : joinW ws = some s) : s = lineW ws ∧ s.length ≤ 400 := by
  cases ws with
  | nil => simp [joinW, jn] at h; subst h; simp [lineW]
  | cons w ws =>
    unfold joinW at h
    simp only [jn, if_true, List.nil_append] at h
    split at h
    · rename_i hl
      obtain ⟨h1, h2⟩ := jn_rest ws _ _ h
      exact ⟨h1, h2 hl⟩
    · cases h
theorem splitW_nil : splitW [] = some [] := rfl
theorem joined_split {ws : List (List UInt8)} {s : List UInt8} (h : joinW ws = some s) : splitW s = some ws := by
  obtain ⟨rfl, _⟩ := joinW_eq h
  have := line_split (u := []) (.inl rfl) ws
  rw [List.append_nil] at this
  rw [this, splitW_nil]; simp
end Go.Proofs.YtllcbjaajffaeaaGreatDoor
