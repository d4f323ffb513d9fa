/- Layer 2: Join. -/
import Derived.Test.YtfmgoagkjjmefaaGreatDoorWkw
namespace Go.Am
section
variable {P : Program} {o : Oper} {a : Slots} {L L₁ : RL} {x y : Operand} {t : TypeId}
theorem SV.one {sz n : Nat} {v : Value} {cs : List Value} (h : SV sz L v n cs) : isJ v = false ∧ v.cells.toList = [v] := by
  rcases h with ⟨rfl, rfl, rfl⟩ | ⟨r, off, cap, row, cs₀, rfl, _⟩ <;> exact ⟨rfl, rfl⟩
theorem e_box {v : Value} (ho : o.op = .box t x) (hx : aev a x = some v) (hj : isJ v = false ∧ v.cells.toList = [v]) (hs : (sizeB P t).isSome = true) : ∀ h, Has h L → ∃ r h₁, opB P a o h = some (.val (ptrTo r) h₁) ∧ Has h₁ ((r, .cells t [v]) :: L) :=
  e_new (fun _ => by simp only [opB, ho, hx, hj.1, hj.2]) hs
end
end Go.Am
namespace Go.Proofs.YtfmgoagkjjmefaaGreatDoor
open Go.Am
set_option linter.unusedVariables false
set_option maxRecDepth 20000

/-- The line of these words, behind what stands. -/
def jn (acc : List UInt8) (first : Bool) : List (List UInt8) → Option (List UInt8)
  | [] => some acc
  | w :: ws => if ((if first then acc else acc ++ [32]) ++ ownF w).length ≤ 400 then jn ((if first then acc else acc ++ [32]) ++ ownF w) false ws else none
def joinW (ws : List (List UInt8)) : Option (List UInt8) := jn [] true ws
theorem ownF_ne (w : List UInt8) : ownF w ≠ [] := by
  unfold ownF
  split
  · cases w with
    | nil => rename_i h; cases h
    | cons c w => simp
  · simp
theorem build2_ct {X : RL} {Q : List UInt8 → RL → Prop} {lf : Nat} {cap : List Value} (hf : ∀ b, CS Tryz.prog lf (ptr b :: cap) ((b, bu (.pointer none) (.slice none 0 0)) :: X) fun v L' => ∃ bs X', bs.length ≤ 100000000 ∧ Q bs X' ∧ BD b bs X' L') :
    CS Tryz.prog 104 [.func (.func lf) #[] ⟨cap⟩] X fun v L' => ∃ bs, Q bs L' ∧ v = str bs := by
  refine CS.mk (fn := Tryz.f104) rfl rfl rfl rfl ?_
  repeat refine LS.seq ?_
  refine LS.region rfl ?_
  refine OS.pure rfl (fun _ => rfl) rfl ?_
  refine OS.nil ?_
  repeat refine LS.seq ?_
  refine LS.region rfl ?_
  refine OS.fresh rfl (e_new (fun _ => rfl) rfl) (fun _ => rfl) (fun b => ?_)
  refine OS.nil ?_
  repeat refine LS.seq ?_
  refine LS.region rfl ?_
  refine OS.pure rfl (fun _ => rfl) rfl ?_
  refine OS.call noGo rfl (fun _ => rfl) ((hf b).mono ?_)
  rintro v L' ⟨bs, X', hn, hq, hB⟩
  refine ⟨_, rfl, ?_⟩
  refine OS.nil ?_
  repeat refine LS.seq ?_
  refine LS.region rfl ?_
  refine OS.call noGo rfl (fun _ => rfl) ((String_ct hB hn).mono ?_)
  rintro v L₁ ⟨rfl, rfl⟩
  refine ⟨_, rfl, ?_⟩
  refine OS.pure rfl (fun _ => rfl) rfl ?_
  refine OS.nil ?_
  refine LS.ret ⟨_, fun _ _ => rfl, ?_⟩
  exact ⟨bs, hq, rfl⟩
abbrev JX (rf rw : Nat) (b : Bool) (v : Value) (L : RL) : RL := (rf, .cells 4 [.bool b]) :: (rw, .cells 50 [v]) :: L
theorem join1_ct {L : RL} {b rf rw : Nat} {v : Value} {ws : List (List UInt8)} (hv : SV 1 L v ws.length (strs ws)) (hn : ws.length ≤ 9000000000000000) (hw : ∀ w ∈ ws, w.length ≤ 9000000000000000) :
    CS Tryz.prog 105 [ptr b, ptr rw, ptr rf] ((b, bu (.pointer none) (.slice none 0 0)) :: JX rf rw true v L) fun _ L' => ∃ bs X', bs.length ≤ 100000000 ∧ ((∃ line, joinW ws = some line ∧ bs = line ∧ X' = JX rf rw true v L) ∨ (joinW ws = none ∧ X' = JX rf rw false v L)) ∧ BD b bs X' L' := by
  have hv1 : SV 1 ((b, bu (.pointer none) (.slice none 0 0)) :: JX rf rw true v L) v ws.length (strs ws) := hv.mono fun p hp => by simp [hp]
  refine CS.mk (fn := Tryz.f105) rfl rfl rfl rfl ?_
  repeat refine LS.seq ?_
  refine LS.region rfl ?_
  refine OS.read rfl (e_load 2 rfl rfl rfl rfl rfl) rfl ?_
  refine OS.pure rfl (e_len hv1 rfl rfl rfl rfl rfl) rfl ?_
  refine OS.pure rfl (fun _ => rfl) rfl ?_
  refine OS.nil ?_
  repeat refine LS.seq ?_
  refine LS.block ?_
  refine LS.loopJ [0, 1, 2, 6, 7, 8] (fun q a L' => ∃ (j : Nat) (acc : List UInt8), q = ws.length - j ∧ j ≤ ws.length ∧ acc.length ≤ 400 ∧ joinW ws = jn acc (j == 0) (ws.drop j) ∧ BD b acc (JX rf rw true v L) L' ∧ a = [ptr b, ptr rw, ptr rf, .chan none, .chan none, .chan none, v, .int .i64 (ws.length : Nat), .int .i64 (j : Nat), .chan none, .chan none, .chan none, .chan none, .chan none, .chan none, .chan none, .chan none, .chan none, .chan none, .chan none, .chan none, .chan none, .chan none]) (n := ws.length) rfl ⟨0, [], rfl, by omega, by simp, rfl, .inl ⟨rfl, rfl⟩, rfl⟩ ?_
  rintro q a L' ⟨j, acc, rfl, hj, ha, hjn, hB, rfl⟩
  repeat refine LS.seq ?_
  refine LS.region rfl ?_
  refine OS.pure rfl (fun _ => rfl) rfl ?_
  refine OS.nil ?_
  repeat refine LS.seq ?_
  refine LS.cond rfl (fun hc => ?_) (fun hc => ?_)
  · have hc : (j : Int) < ws.length := lt_of hc
    have hjl : j < ws.length := by omega
    have hd : ws.drop j = ws[j] :: ws.drop (j + 1) := List.drop_eq_getElem_cons hjl
    have hmem : ws[j] ∈ ws := List.getElem_mem hjl
    have hget : (strs ws)[j]? = some (str (ws[j]'hjl)) := by simp [strs, hjl]
    generalize ws[j] = w at hd hmem hget
    have hwl := hw w hmem
    have hv2 : SV 1 L' v ws.length (strs ws) := hv.mono fun p hp => hB.mem p (by simp [hp])
    refine LS.skip ?_
    repeat refine LS.seq ?_
    refine LS.block ?_
    repeat refine LS.seq ?_
    refine LS.region rfl ?_
    refine OS.pure rfl (fun _ => rfl) rfl ?_
    refine OS.at1 hv2 hget rfl rfl rfl rfl rfl rfl (fun r off row cs₀ m1 m2 m3 => ⟨_, rfl, ?_⟩)
    refine OS.read rfl (e_loadm m1 m2 rfl rfl (part_one rfl m3)) rfl ?_
    refine OS.pure rfl (fun _ => rfl) rfl ?_
    refine OS.pure rfl (fun _ => rfl) rfl ?_
    refine OS.nil ?_
    repeat refine LS.seq ?_
    refine LS.region rfl ?_
    refine OS.pure rfl (fun _ => rfl) rfl ?_
    refine OS.pure rfl (fun _ => rfl) rfl ?_
    refine OS.nil ?_
    refine LS.mid [0, 1, 2, 5, 6, 7, 8] (fun a L' => BD b (if (j == 0) = true then acc else acc ++ [32]) (JX rf rw true v L) L' ∧ a = [ptr b, ptr rw, ptr rf, .chan none, .chan none, str w, v, .int .i64 (ws.length : Nat), .int .i64 (j : Nat), .chan none, .chan none, .chan none, .chan none, .chan none, .chan none, .chan none, .chan none, .chan none, .chan none, .chan none, .chan none, .chan none, .chan none]) ?_ ?_
    · repeat refine LS.seq ?_
      refine LS.cond rfl (fun h0 => ?_) (fun h0 => ?_)
      · have h0 : (0 : Int) < j := lt_of h0
        have hz : (j == 0) = false := by simp; omega
        repeat refine LS.seq ?_
        refine LS.region rfl ?_
        refine OS.pure rfl (fun _ => rfl) rfl ?_
        refine OS.call noGo rfl (fun _ => rfl) ((WriteByte_ct 32 hB (by omega)).mono ?_)
        rintro v' L₂ ⟨rfl, hB2⟩
        refine ⟨_, rfl, ?_⟩
        refine OS.nil ?_
        exact ⟨by rw [hz]; exact hB2, rfl⟩
      · have h0 : (j : Int) ≤ 0 := nlt_of h0
        have hz : (j == 0) = true := by simp; omega
        refine LS.skip ⟨?_, rfl⟩
        rw [hz]; exact hB
    rintro a L₂ ⟨hB2, rfl⟩
    have hal : (if (j == 0) = true then acc else acc ++ [32]).length ≤ 401 := by
      split
      · omega
      · rw [List.length_append]; simp only [List.length_cons, List.length_nil]; omega
    rw [hd] at hjn
    simp only [jn] at hjn
    generalize (if (j == 0) = true then acc else acc ++ [32]) = ac at hB2 hal hjn
    repeat refine LS.seq ?_
    refine LS.region rfl ?_
    refine OS.pure rfl (fun _ => rfl) rfl ?_
    refine OS.pure rfl (fun _ => rfl) rfl ?_
    refine OS.call noGo rfl (fun _ => rfl) ((addForm_ct w hB2 (by omega) hwl).mono ?_)
    rintro v' L₃ (⟨h4, rfl, hB3⟩ | ⟨h4, rfl, bs', hb', hB3⟩)
    · rw [if_pos h4] at hjn
      have hne : ac ++ ownF w ≠ [] := by simp [ownF_ne]
      rcases hB3 with ⟨h0, _⟩ | ⟨_, r, rfl⟩
      · exact absurd h0 hne
      refine ⟨_, rfl, ?_⟩
      refine OS.write rfl (e_store 2 rfl rfl rfl rfl rfl rfl rfl rfl) rfl ?_
      refine OS.nil ?_
      repeat refine LS.seq ?_
      refine LS.region rfl ?_
      refine OS.read rfl (e_load 2 rfl rfl rfl rfl rfl) rfl ?_
      refine OS.pure rfl (fun _ => rfl) rfl ?_
      refine OS.nil ?_
      repeat refine LS.seq ?_
      refine LS.cond rfl (fun h => ?_) (fun h => ?_)
      · cases h
      refine LS.skip ?_
      repeat refine LS.seq ?_
      refine LS.region rfl ?_
      refine OS.pure rfl (e_add (m := (j : Int)) (n := 1) rfl rfl rfl (in_i64 (by omega) (by omega))) rfl ?_
      rw [show ((j : Nat) : Int) + 1 = ((j + 1 : Nat) : Int) by omega]
      refine OS.pure rfl (fun _ => rfl) rfl ?_
      refine OS.nil ?_
      exact ⟨ws.length - (j + 1), by omega, j + 1, _, rfl, by omega, h4, by rw [hjn]; rfl, .inr ⟨hne, r, rfl⟩, rfl⟩
    · rw [if_neg h4] at hjn
      rcases hB3 with ⟨h0, rfl⟩ | ⟨h0, r, rfl⟩
      · refine ⟨_, rfl, ?_⟩
        refine OS.write rfl (e_store 1 rfl rfl rfl rfl rfl rfl rfl rfl) rfl ?_
        refine OS.nil ?_
        repeat refine LS.seq ?_
        refine LS.region rfl ?_
        refine OS.read rfl (e_load 1 rfl rfl rfl rfl rfl) rfl ?_
        refine OS.pure rfl (fun _ => rfl) rfl ?_
        refine OS.nil ?_
        repeat refine LS.seq ?_
        refine LS.cond rfl (fun h => ?_) (fun h => ?_)
        · refine LS.ret ⟨_, fun _ _ => rfl, ?_⟩
          exact ⟨bs', _, by omega, .inr ⟨hjn, rfl⟩, .inl ⟨h0, rfl⟩⟩
        · cases h
      · refine ⟨_, rfl, ?_⟩
        refine OS.write rfl (e_store 2 rfl rfl rfl rfl rfl rfl rfl rfl) rfl ?_
        refine OS.nil ?_
        repeat refine LS.seq ?_
        refine LS.region rfl ?_
        refine OS.read rfl (e_load 2 rfl rfl rfl rfl rfl) rfl ?_
        refine OS.pure rfl (fun _ => rfl) rfl ?_
        refine OS.nil ?_
        repeat refine LS.seq ?_
        refine LS.cond rfl (fun h => ?_) (fun h => ?_)
        · refine LS.ret ⟨_, fun _ _ => rfl, ?_⟩
          exact ⟨bs', _, by omega, .inr ⟨hjn, rfl⟩, .inr ⟨h0, r, rfl⟩⟩
        · cases h
  · have hc : (ws.length : Int) ≤ j := nlt_of hc
    rw [List.drop_eq_nil_of_le (by omega)] at hjn
    refine LS.exit ?_
    refine ⟨_, fun _ _ => rfl, acc, _, by omega, .inl ⟨acc, hjn, rfl, rfl⟩, hB⟩
/-- What Join answers. -/
def joinV (ws : List (List UInt8)) : Value := match joinW ws with
  | some line => .tuple #[str line, .int .i64 0]
  | none => .tuple #[str [], .int .i64 40]
theorem Join_ct {L : RL} {v : Value} {ws : List (List UInt8)} (hv : SV 1 L v ws.length (strs ws)) (hn : ws.length ≤ 9000000000000000) (hw : ∀ w ∈ ws, w.length ≤ 9000000000000000) :
    CS Tryz.prog 88 [v] L fun u L' => u = joinV ws ∧ L' = L := by
  suffices h : CS Tryz.prog 88 [v] L fun u L' => u = joinV ws ∧ ∃ x y, L' = x :: y :: L by
    exact h.less fun u L' ⟨h1, x, y, h2⟩ => ⟨L, by rw [h2]; exact ⟨[x, y], by simpa using (List.perm_append_comm (l₁ := [x, y]) (l₂ := L))⟩, h1, rfl⟩
  refine CS.mk (fn := Tryz.f88) rfl rfl rfl rfl ?_
  repeat refine LS.seq ?_
  refine LS.region rfl ?_
  refine OS.fresh rfl (e_box rfl rfl hv.one rfl) (fun _ => rfl) (fun rw => ?_)
  refine OS.pure rfl (fun _ => rfl) rfl ?_
  refine OS.pure rfl (fun _ => rfl) rfl ?_
  refine OS.nil ?_
  repeat refine LS.seq ?_
  refine LS.region rfl ?_
  refine OS.fresh rfl (e_new (fun _ => rfl) rfl) (fun _ => rfl) (fun rf => ?_)
  refine OS.write rfl (e_store 0 rfl rfl rfl rfl rfl rfl rfl rfl) rfl ?_
  refine OS.nil ?_
  repeat refine LS.seq ?_
  refine LS.region rfl ?_
  refine OS.pure rfl (fun _ => rfl) rfl ?_
  refine OS.call noGo rfl (fun _ => rfl) ((build2_ct (Q := fun bs X' => (∃ line, joinW ws = some line ∧ bs = line ∧ X' = JX rf rw true v L) ∨ (joinW ws = none ∧ X' = JX rf rw false v L)) (fun b => join1_ct (b := b) (rf := rf) (rw := rw) hv hn hw)).mono ?_)
  rintro u L' ⟨bs, hq, rfl⟩
  rcases hq with ⟨line, h1, rfl, rfl⟩ | ⟨h1, rfl⟩
  · have hj : joinV ws = .tuple #[str bs, .int .i64 0] := by unfold joinV; rw [h1]
    refine ⟨_, rfl, ?_⟩
    refine OS.pure rfl (fun _ => rfl) rfl ?_
    refine OS.nil ?_
    repeat refine LS.seq ?_
    refine LS.region rfl ?_
    refine OS.read rfl (e_load 0 rfl rfl rfl rfl rfl) rfl ?_
    refine OS.pure rfl (fun _ => rfl) rfl ?_
    refine OS.nil ?_
    repeat refine LS.seq ?_
    refine LS.cond rfl (fun h => ?_) (fun h => ?_)
    · cases h
    refine LS.skip ?_
    repeat refine LS.seq ?_
    refine LS.region rfl ?_
    refine OS.pure rfl (fun _ => rfl) rfl ?_
    refine OS.pure rfl (fun _ => rfl) rfl ?_
    refine OS.pure rfl (fun _ => rfl) rfl ?_
    refine OS.nil ?_
    refine LS.ret ⟨_, fun _ _ => rfl, ?_⟩
    exact ⟨by rw [hj]; rfl, _, _, rfl⟩
  · have hj : joinV ws = .tuple #[str [], .int .i64 40] := by unfold joinV; rw [h1]
    refine ⟨_, rfl, ?_⟩
    refine OS.pure rfl (fun _ => rfl) rfl ?_
    refine OS.nil ?_
    repeat refine LS.seq ?_
    refine LS.region rfl ?_
    refine OS.read rfl (e_load 0 rfl rfl rfl rfl rfl) rfl ?_
    refine OS.pure rfl (fun _ => rfl) rfl ?_
    refine OS.nil ?_
    repeat refine LS.seq ?_
    refine LS.cond rfl (fun h => ?_) (fun h => ?_)
    · repeat refine LS.seq ?_
      refine LS.region rfl ?_
      refine OS.pure rfl (fun _ => rfl) rfl ?_
      refine OS.pure rfl (fun _ => rfl) rfl ?_
      refine OS.nil ?_
      refine LS.ret ⟨_, fun _ _ => rfl, ?_⟩
      exact ⟨by rw [hj]; rfl, _, _, rfl⟩
    · cases h
end Go.Proofs.YtfmgoagkjjmefaaGreatDoor
