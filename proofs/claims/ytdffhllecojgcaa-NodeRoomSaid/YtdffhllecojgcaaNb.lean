/- Layer 6, the program's: may a node be? -/
import Derived.Test.YtdffhllecojgcaaNa
namespace Go.Am
section
variable {P : Program} {o : Oper} {a : Slots} {L L₁ : RL} {x y : Operand} {t : TypeId}
theorem SV.one {sz n : Nat} {v : Value} {cs : List Value} (h : SV sz L v n cs) : isJ v = false ∧ v.cells.toList = [v] := by
  rcases h with ⟨rfl, rfl, rfl⟩ | ⟨r, off, cap, row, cs₀, rfl, _⟩ <;> exact ⟨rfl, rfl⟩
end
theorem Sub.suffix {X L : RL} : Sub L (X ++ L) := ⟨X, List.perm_append_comm⟩
theorem Sub.tail {x : Nat × ARow} {L : RL} : Sub L (x :: L) := Sub.suffix (X := [x])
theorem Sub.self {L : RL} : Sub L L := ⟨[], by simp⟩
theorem Sub.trans {A B C : RL} (h : Sub A B) (g : Sub B C) : Sub A C := by
  obtain ⟨X, hX⟩ := h
  obtain ⟨Y, hY⟩ := g
  refine ⟨X ++ Y, ?_⟩
  rw [← List.append_assoc]
  exact hY.trans (hX.append_right Y)
theorem Sub.cons {A B : RL} {x : Nat × ARow} (s : Sub A B) : Sub (x :: A) (x :: B) := by
  obtain ⟨X, hX⟩ := s
  exact ⟨X, hX.cons x⟩
theorem Sub.swap {A Y G : RL} : Sub (A ++ (Y ++ G)) (Y ++ (A ++ G)) := ⟨[], by
  rw [List.append_nil, ← List.append_assoc, ← List.append_assoc]
  exact List.perm_append_comm.append_right G⟩
theorem Sub.mem {A B : RL} (s : Sub A B) : ∀ p, p ∈ A → p ∈ B := by
  obtain ⟨X, hX⟩ := s
  exact fun p hp => hX.mem_iff.2 (List.mem_append_left _ hp)
end Go.Am
namespace Go.Proofs.Ytdffhllecojgcaa
open Go.Am
set_option linter.unusedVariables false
set_option maxRecDepth 20000

theorem ieqN {m n : Nat} : ieqB (m : Int) (n : Nat) = decide (m = n) := by
  rw [ieqB_eq]; by_cases h : m = n
  · subst h; simp
  · rw [decide_eq_false h]; simpa using (show ¬ (m : Int) = n by omega)
theorem tx_at {ks : List (List UInt8)} {j : Nat} (h : j < ks.length) : (tx ks)[j]? = some (txt (ks[j]'h)) := by simp [tx, h]
theorem nums_at {zs : List Int} {j : Nat} (h : j < zs.length) : (nums zs)[j]? = some (.int .i64 (zs[j]'h)) := by simp [nums, h]
/-- The last one of the keys ahead. -/
def lastK (ks : List (List UInt8)) (j : Nat) : List UInt8 := if j = 0 then [] else ks.getD (j - 1) []
theorem lastK_succ {ks : List (List UInt8)} {j : Nat} (h : j < ks.length) : lastK ks (j + 1) = ks[j] := by
  unfold lastK
  rw [if_neg (by omega)]
  simp [h]
theorem keysMayBe_ct {L : RL} {v : Value} {ks : List (List UInt8)} (hv : SV 1 L v ks.length (tx ks)) (hn : ks.length ≤ 9000000000000000) (hk : ∀ k ∈ ks, k.length ≤ 9000000000000000) :
    CS Try.prog 39 [v] L fun u L' => u = .bool (rise [] ks) ∧ L' = L := by
  refine CS.mk (fn := Try.f39) rfl rfl rfl rfl ?_
  repeat refine LS.seq ?_
  refine LS.region rfl ?_
  refine OS.pure rfl (fun _ => rfl) rfl ?_
  refine OS.nil ?_
  repeat refine LS.seq ?_
  refine LS.region rfl ?_
  refine OS.pure rfl (fun _ => rfl) rfl ?_
  refine OS.nil ?_
  repeat refine LS.seq ?_
  refine LS.region rfl ?_
  refine OS.pure rfl (fun _ => rfl) rfl ?_
  refine OS.pure rfl (e_len hv rfl rfl rfl rfl rfl) rfl ?_
  refine OS.pure rfl (fun _ => rfl) rfl ?_
  refine OS.nil ?_
  repeat refine LS.seq ?_
  refine LS.block ?_
  refine LS.loopJ [3, 6, 7, 8] (fun q a L' => ∃ j : Nat, q = ks.length - j ∧ j ≤ ks.length ∧ rise (lastK ks j) (ks.drop j) = rise [] ks ∧ L' = L ∧ a = [.chan none, .chan none, .chan none, txt (lastK ks j), .chan none, .chan none, v, .int .i64 (ks.length : Nat), .int .i64 (j : Nat), .chan none, .chan none, .chan none, .chan none, .chan none, .chan none, .chan none, .chan none, .chan none, .chan none, .chan none, .chan none, .chan none]) (n := ks.length) rfl ⟨0, rfl, by omega, rfl, rfl, rfl⟩ ?_
  rintro q a L' ⟨j, rfl, hj, hr, rfl, rfl⟩
  repeat refine LS.seq ?_
  refine LS.region rfl ?_
  refine OS.pure rfl (fun _ => rfl) rfl ?_
  refine OS.nil ?_
  repeat refine LS.seq ?_
  refine LS.cond rfl (fun hc => ?_) (fun hc => ?_)
  · have hc : (j : Int) < ks.length := lt_of hc
    have hjk : j < ks.length := by omega
    have hlen : (ks[j]).length ≤ 9000000000000000 := hk _ (List.getElem_mem hjk)
    rw [List.drop_eq_getElem_cons hjk] at hr
    simp only [rise] at hr
    refine LS.skip ?_
    repeat refine LS.seq ?_
    refine LS.block ?_
    repeat refine LS.seq ?_
    refine LS.region rfl ?_
    refine OS.at1 (j := j) hv (tx_at hjk) rfl rfl rfl rfl rfl rfl (fun r0 o0 row0 cs0 m0 c0 g0 => ?_)
    refine ⟨_, rfl, ?_⟩
    refine OS.read rfl (e_loadm m0 c0 rfl rfl (part_one rfl g0)) rfl ?_
    refine OS.pure rfl (fun _ => rfl) rfl ?_
    refine OS.nil ?_
    cases hl : leT ks[j] (lastK ks j) with
    | true =>
      rw [hl] at hr
      repeat refine LS.seq ?_
      refine LS.region rfl ?_
      refine OS.pure rfl (fun _ => rfl) rfl ?_
      refine OS.pure rfl (fun _ => rfl) rfl ?_
      refine OS.pure rfl (e_is (fun _ => rfl) (congrArg Value.bool hl)) rfl ?_
      refine OS.pure rfl (fun _ => rfl) rfl ?_
      refine OS.skip rfl rfl ?_
      refine OS.skip rfl rfl ?_
      refine OS.skip rfl rfl ?_
      refine OS.pure rfl (fun _ => rfl) rfl ?_
      refine OS.nil ?_
      repeat refine LS.seq ?_
      refine LS.cond rfl (fun h => ?_) (fun h => ?_)
      · repeat refine LS.seq ?_
        refine LS.region rfl ?_
        refine OS.pure rfl (fun _ => rfl) rfl ?_
        refine OS.nil ?_
        refine LS.ret ⟨_, fun _ _ => rfl, ?_⟩
        exact ⟨by rw [← hr]; rfl, rfl⟩
      · cases h
    | false =>
      rw [hl] at hr
      by_cases hb : ks[j].length ≤ 32
      · rw [decide_eq_true hb] at hr
        have hgt : (!ileB (ks[j].length : Int) 32) = false := by rw [ileB_eq]; simp; omega
        repeat refine LS.seq ?_
        refine LS.region rfl ?_
        refine OS.pure rfl (fun _ => rfl) rfl ?_
        refine OS.pure rfl (fun _ => rfl) rfl ?_
        refine OS.pure rfl (e_is (fun _ => rfl) (congrArg Value.bool hl)) rfl ?_
        refine OS.pure rfl (fun _ => rfl) rfl ?_
        refine OS.pure rfl (fun _ => rfl) rfl ?_
        refine OS.pure rfl (fun _ => rfl) rfl ?_
        refine OS.pure rfl (e_is (fun _ => rfl) (congrArg Value.bool hgt)) rfl ?_
        refine OS.pure rfl (fun _ => rfl) rfl ?_
        refine OS.nil ?_
        repeat refine LS.seq ?_
        refine LS.cond rfl (fun h => ?_) (fun h => ?_)
        · cases h
        refine LS.skip ?_
        repeat refine LS.seq ?_
        refine LS.region rfl ?_
        refine OS.pure rfl (fun _ => rfl) rfl ?_
        refine OS.pure rfl (fun _ => rfl) rfl ?_
        refine OS.nil ?_
        repeat refine LS.seq ?_
        refine LS.region rfl ?_
        refine OS.pure rfl (e_add (m := j) (n := 1) rfl rfl rfl (in_i64 (by omega) (by omega))) rfl ?_
        refine OS.pure rfl (fun _ => rfl) rfl ?_
        refine OS.nil ?_
        refine ⟨ks.length - (j + 1), by omega, j + 1, rfl, by omega, ?_, rfl, by rw [lastK_succ hjk]; rfl⟩
        rw [lastK_succ hjk, ← hr]
        simp
      · rw [decide_eq_false hb] at hr
        have hgt : (!ileB (ks[j].length : Int) 32) = true := by rw [ileB_eq]; simp; omega
        repeat refine LS.seq ?_
        refine LS.region rfl ?_
        refine OS.pure rfl (fun _ => rfl) rfl ?_
        refine OS.pure rfl (fun _ => rfl) rfl ?_
        refine OS.pure rfl (e_is (fun _ => rfl) (congrArg Value.bool hl)) rfl ?_
        refine OS.pure rfl (fun _ => rfl) rfl ?_
        refine OS.pure rfl (fun _ => rfl) rfl ?_
        refine OS.pure rfl (fun _ => rfl) rfl ?_
        refine OS.pure rfl (e_is (fun _ => rfl) (congrArg Value.bool hgt)) rfl ?_
        refine OS.pure rfl (fun _ => rfl) rfl ?_
        refine OS.nil ?_
        repeat refine LS.seq ?_
        refine LS.cond rfl (fun h => ?_) (fun h => ?_)
        · repeat refine LS.seq ?_
          refine LS.region rfl ?_
          refine OS.pure rfl (fun _ => rfl) rfl ?_
          refine OS.nil ?_
          refine LS.ret ⟨_, fun _ _ => rfl, ?_⟩
          exact ⟨by rw [← hr]; rfl, rfl⟩
        · cases h
  · have hc : (ks.length : Int) ≤ (j : Int) := nlt_of hc
    have hje : j = ks.length := by omega
    subst hje
    rw [List.drop_length] at hr
    refine LS.exit ?_
    repeat refine LS.seq ?_
    refine LS.region rfl ?_
    refine OS.pure rfl (fun _ => rfl) rfl ?_
    refine OS.nil ?_
    refine LS.ret ⟨_, fun _ _ => rfl, ?_⟩
    exact ⟨by rw [← hr]; rfl, rfl⟩

theorem noValue_ct {L : RL} {s : List UInt8} (hs : s.length ≤ 9000000000000000) : CS Try.prog 41 [txt s] L fun u L' => u = .bool (decide (64 < s.length)) ∧ L' = L := by
  have hb : (!ileB (s.length : Int) 64) = decide (64 < s.length) := by rw [ileB_eq]; by_cases h : 64 < s.length <;> simp [h] <;> omega
  refine CS.mk (fn := Try.f41) rfl rfl rfl rfl ?_
  repeat refine LS.seq ?_
  refine LS.region rfl ?_
  refine OS.pure rfl (fun _ => rfl) rfl ?_
  refine OS.nil ?_
  repeat refine LS.seq ?_
  refine LS.region rfl ?_
  refine OS.pure rfl (fun _ => rfl) rfl ?_
  refine OS.pure rfl (fun _ => rfl) rfl ?_
  refine OS.pure rfl (e_is (fun _ => rfl) (congrArg Value.bool hb)) rfl ?_
  refine OS.pure rfl (fun _ => rfl) rfl ?_
  refine OS.nil ?_
  refine LS.ret ⟨_, fun _ _ => rfl, ?_⟩
  exact ⟨rfl, rfl⟩
def badKid (z : Int) : Bool := decide (z < 0 ∨ 32768 < z)
theorem noKid_ct {L : RL} {z : Int} : CS Try.prog 43 [.int .i64 z] L fun u L' => u = .bool (badKid z) ∧ L' = L := by
  have hb : (!ileB z 32768) = decide (32768 < z) := by rw [ileB_eq]; by_cases h : 32768 < z <;> simp [h] <;> omega
  refine CS.mk (fn := Try.f43) rfl rfl rfl rfl ?_
  repeat refine LS.seq ?_
  refine LS.region rfl ?_
  refine OS.pure rfl (fun _ => rfl) rfl ?_
  refine OS.nil ?_
  by_cases h0 : z < 0
  · have h1 : (!ileB 0 z) = true := by rw [ileB_eq]; simp; omega
    repeat refine LS.seq ?_
    refine LS.region rfl ?_
    refine OS.pure rfl (fun _ => rfl) rfl ?_
    refine OS.pure rfl (e_is (fun _ => rfl) (congrArg Value.bool h1)) rfl ?_
    refine OS.pure rfl (fun _ => rfl) rfl ?_
    refine OS.skip rfl rfl ?_
    refine OS.skip rfl rfl ?_
    refine OS.pure rfl (fun _ => rfl) rfl ?_
    refine OS.pure rfl (fun _ => rfl) rfl ?_
    refine OS.nil ?_
    refine LS.ret ⟨_, fun _ _ => rfl, ?_⟩
    exact ⟨by unfold badKid; rw [decide_eq_true (.inl h0)]; rfl, rfl⟩
  · have h1 : (!ileB 0 z) = false := by rw [ileB_eq]; simp; omega
    repeat refine LS.seq ?_
    refine LS.region rfl ?_
    refine OS.pure rfl (fun _ => rfl) rfl ?_
    refine OS.pure rfl (e_is (fun _ => rfl) (congrArg Value.bool h1)) rfl ?_
    refine OS.pure rfl (fun _ => rfl) rfl ?_
    refine OS.pure rfl (fun _ => rfl) rfl ?_
    refine OS.pure rfl (e_is (fun _ => rfl) (congrArg Value.bool hb)) rfl ?_
    refine OS.pure rfl (fun _ => rfl) rfl ?_
    refine OS.pure rfl (fun _ => rfl) rfl ?_
    refine OS.nil ?_
    refine LS.ret ⟨_, fun _ _ => rfl, ?_⟩
    exact ⟨by unfold badKid; by_cases h2 : 32768 < z <;> simp [h0, h2, tupleB], rfl⟩
theorem notZero_ct {L : RL} {c : UInt8} : CS Try.prog 62 [.int .u8 (c.toNat : Nat)] L fun u L' => u = .bool (c != 0) ∧ L' = L := by
  have hb : (!ieqB (c.toNat : Int) 0) = (c != 0) := by
    rw [ieqB_eq]
    by_cases h : c = 0
    · subst h; rfl
    · have : c.toNat ≠ 0 := fun hh => h (UInt8.toNat_inj.1 hh)
      have h1 : ((c.toNat : Int) == 0) = false := by simpa using (show ¬ (c.toNat : Int) = 0 by omega)
      rw [h1]; simp [h]
  refine CS.mk (fn := Try.f62) rfl rfl rfl rfl ?_
  repeat refine LS.seq ?_
  refine LS.region rfl ?_
  refine OS.pure rfl (fun _ => rfl) rfl ?_
  refine OS.nil ?_
  repeat refine LS.seq ?_
  refine LS.region rfl ?_
  refine OS.pure rfl (fun _ => rfl) rfl ?_
  refine OS.pure rfl (e_is (fun _ => rfl) (congrArg Value.bool hb)) rfl ?_
  refine OS.pure rfl (fun _ => rfl) rfl ?_
  refine OS.nil ?_
  refine LS.ret ⟨_, fun _ _ => rfl, ?_⟩
  exact ⟨rfl, rfl⟩
theorem indexT_ct {L : RL} {v : Value} {l : List (List UInt8)} {f : Nat} {p : List UInt8 → Bool} (hv : SV 1 L v l.length (tx l)) (hn : l.length ≤ 9000000000000000) (hf : ∀ x ∈ l, CS Try.prog f [(txt) x] L fun u L' => u = .bool (p x) ∧ L' = L) :
    CS Try.prog 67 [v, .func (.func f) #[] #[]] L fun u L' => (∃ i : Nat, u = .int .i64 i ∧ l.any p = true ∨ u = .int .i64 (-1) ∧ l.any p = false) ∧ L' = L := by
  refine CS.mk (fn := Try.f67) rfl rfl rfl rfl ?_
  repeat refine LS.seq ?_
  refine LS.region rfl ?_
  refine OS.pure rfl (fun _ => rfl) rfl ?_
  refine OS.nil ?_
  repeat refine LS.seq ?_
  refine LS.region rfl ?_
  refine OS.pure rfl (fun _ => rfl) rfl ?_
  refine OS.pure rfl (e_len hv rfl rfl rfl rfl rfl) rfl ?_
  refine OS.pure rfl (fun _ => rfl) rfl ?_
  refine OS.nil ?_
  repeat refine LS.seq ?_
  refine LS.block ?_
  refine LS.loopJ [0, 1, 7, 8] (fun q a L' => ∃ j : Nat, q = l.length - j ∧ j ≤ l.length ∧ (l.take j).any p = false ∧ L' = L ∧ a = [v, .func (.func f) #[] #[], .chan none, .chan none, .chan none, .chan none, .chan none, .int .i64 (l.length : Nat), .int .i64 (j : Nat), .chan none, .chan none, .chan none, .chan none, .chan none, .chan none, .chan none, .chan none, .chan none, .chan none]) (n := l.length) rfl ⟨0, rfl, by omega, rfl, rfl, rfl⟩ ?_
  rintro q a L' ⟨j, rfl, hj, hr, rfl, rfl⟩
  repeat refine LS.seq ?_
  refine LS.region rfl ?_
  refine OS.pure rfl (fun _ => rfl) rfl ?_
  refine OS.nil ?_
  repeat refine LS.seq ?_
  refine LS.cond rfl (fun hc => ?_) (fun hc => ?_)
  · have hc : (j : Int) < l.length := lt_of hc
    have hjl : j < l.length := by omega
    refine LS.skip ?_
    repeat refine LS.seq ?_
    refine LS.block ?_
    repeat refine LS.seq ?_
    refine LS.region rfl ?_
    refine OS.pure rfl (fun _ => rfl) rfl ?_
    refine OS.pure rfl (fun _ => rfl) rfl ?_
    refine OS.nil ?_
    repeat refine LS.seq ?_
    refine LS.region rfl ?_
    refine OS.pure rfl (fun _ => rfl) rfl ?_
    refine OS.pure rfl (fun _ => rfl) rfl ?_
    refine OS.pure rfl (fun _ => rfl) rfl ?_
    refine OS.at1 (j := j) hv (tx_at hjl) rfl rfl rfl rfl rfl rfl (fun r0 o0 row0 cs0 m0 c0 g0 => ?_)
    refine ⟨_, rfl, ?_⟩
    refine OS.read rfl (e_loadm m0 c0 rfl rfl (part_one rfl g0)) rfl ?_
    refine OS.call noGo rfl (fun _ => rfl) ((hf l[j] (List.getElem_mem hjl)).mono ?_)
    rintro u L₁ ⟨rfl, e₁⟩
    subst e₁
    refine ⟨_, rfl, ?_⟩
    refine OS.nil ?_
    cases hp : p l[j] with
    | true =>
      repeat refine LS.seq ?_
      refine LS.cond rfl (fun h => ?_) (fun h => ?_)
      · repeat refine LS.seq ?_
        refine LS.region rfl ?_
        refine OS.pure rfl (fun _ => rfl) rfl ?_
        refine OS.pure rfl (fun _ => rfl) rfl ?_
        refine OS.nil ?_
        refine LS.ret ⟨_, fun _ _ => rfl, ?_⟩
        exact ⟨⟨j, .inl ⟨rfl, List.any_eq_true.2 ⟨_, List.getElem_mem hjl, hp⟩⟩⟩, rfl⟩
      · cases h
    | false =>
      repeat refine LS.seq ?_
      refine LS.cond rfl (fun h => ?_) (fun h => ?_)
      · cases h
      refine LS.skip ?_
      repeat refine LS.seq ?_
      refine LS.region rfl ?_
      refine OS.pure rfl (e_add (m := j) (n := 1) rfl rfl rfl (in_i64 (by omega) (by omega))) rfl ?_
      refine OS.pure rfl (fun _ => rfl) rfl ?_
      refine OS.nil ?_
      refine ⟨l.length - (j + 1), by omega, j + 1, rfl, by omega, ?_, rfl, rfl⟩
      rw [List.take_succ_eq_append_getElem hjl, List.any_append, hr]
      simp [hp]
  · have hc : (l.length : Int) ≤ (j : Int) := nlt_of hc
    have hje : j = l.length := by omega
    subst hje
    rw [List.take_length] at hr
    refine LS.exit ?_
    repeat refine LS.seq ?_
    refine LS.region rfl ?_
    refine OS.pure rfl (fun _ => rfl) rfl ?_
    refine OS.nil ?_
    refine LS.ret ⟨_, fun _ _ => rfl, ?_⟩
    exact ⟨⟨0, .inr ⟨rfl, hr⟩⟩, rfl⟩
theorem indexT_any {L : RL} {v : Value} {l : List (List UInt8)} {f : Nat} {p : List UInt8 → Bool} (hv : SV 1 L v l.length (tx l)) (hn : l.length ≤ 9000000000000000) (hf : ∀ x ∈ l, CS Try.prog f [(txt) x] L fun u L' => u = .bool (p x) ∧ L' = L) :
    CS Try.prog 40 [v, .func (.func f) #[] #[]] L fun u L' => u = .bool (l.any p) ∧ L' = L := by
  refine CS.mk (fn := Try.f40) rfl rfl rfl rfl ?_
  repeat refine LS.seq ?_
  refine LS.region rfl ?_
  refine OS.pure rfl (fun _ => rfl) rfl ?_
  refine OS.nil ?_
  repeat refine LS.seq ?_
  refine LS.region rfl ?_
  refine OS.pure rfl (fun _ => rfl) rfl ?_
  refine OS.pure rfl (fun _ => rfl) rfl ?_
  refine OS.call noGo rfl (fun _ => rfl) ((indexT_ct hv hn hf).mono ?_)
  rintro u L₁ ⟨⟨i, h⟩, e₁⟩
  subst e₁
  rcases h with ⟨rfl, h⟩ | ⟨rfl, h⟩
  · have hb : ileB 0 (i : Int) = true := ileB_iff.2 (by omega)
    refine ⟨_, rfl, ?_⟩
    refine OS.pure rfl (e_is (fun _ => rfl) (congrArg Value.bool hb)) rfl ?_
    refine OS.pure rfl (fun _ => rfl) rfl ?_
    refine OS.nil ?_
    refine LS.ret ⟨_, fun _ _ => rfl, ?_⟩
    exact ⟨by rw [h]; rfl, rfl⟩
  · refine ⟨_, rfl, ?_⟩
    refine OS.pure rfl (fun _ => rfl) rfl ?_
    refine OS.pure rfl (fun _ => rfl) rfl ?_
    refine OS.nil ?_
    refine LS.ret ⟨_, fun _ _ => rfl, ?_⟩
    exact ⟨by rw [h]; rfl, rfl⟩
theorem indexI_ct {L : RL} {v : Value} {l : List Int} {f : Nat} {p : Int → Bool} (hv : SV 1 L v l.length (nums l)) (hn : l.length ≤ 9000000000000000) (hf : ∀ x ∈ l, CS Try.prog f [(Value.int .i64) x] L fun u L' => u = .bool (p x) ∧ L' = L) :
    CS Try.prog 68 [v, .func (.func f) #[] #[]] L fun u L' => (∃ i : Nat, u = .int .i64 i ∧ l.any p = true ∨ u = .int .i64 (-1) ∧ l.any p = false) ∧ L' = L := by
  refine CS.mk (fn := Try.f68) rfl rfl rfl rfl ?_
  repeat refine LS.seq ?_
  refine LS.region rfl ?_
  refine OS.pure rfl (fun _ => rfl) rfl ?_
  refine OS.nil ?_
  repeat refine LS.seq ?_
  refine LS.region rfl ?_
  refine OS.pure rfl (fun _ => rfl) rfl ?_
  refine OS.pure rfl (e_len hv rfl rfl rfl rfl rfl) rfl ?_
  refine OS.pure rfl (fun _ => rfl) rfl ?_
  refine OS.nil ?_
  repeat refine LS.seq ?_
  refine LS.block ?_
  refine LS.loopJ [0, 1, 7, 8] (fun q a L' => ∃ j : Nat, q = l.length - j ∧ j ≤ l.length ∧ (l.take j).any p = false ∧ L' = L ∧ a = [v, .func (.func f) #[] #[], .chan none, .chan none, .chan none, .chan none, .chan none, .int .i64 (l.length : Nat), .int .i64 (j : Nat), .chan none, .chan none, .chan none, .chan none, .chan none, .chan none, .chan none, .chan none, .chan none, .chan none]) (n := l.length) rfl ⟨0, rfl, by omega, rfl, rfl, rfl⟩ ?_
  rintro q a L' ⟨j, rfl, hj, hr, rfl, rfl⟩
  repeat refine LS.seq ?_
  refine LS.region rfl ?_
  refine OS.pure rfl (fun _ => rfl) rfl ?_
  refine OS.nil ?_
  repeat refine LS.seq ?_
  refine LS.cond rfl (fun hc => ?_) (fun hc => ?_)
  · have hc : (j : Int) < l.length := lt_of hc
    have hjl : j < l.length := by omega
    refine LS.skip ?_
    repeat refine LS.seq ?_
    refine LS.block ?_
    repeat refine LS.seq ?_
    refine LS.region rfl ?_
    refine OS.pure rfl (fun _ => rfl) rfl ?_
    refine OS.pure rfl (fun _ => rfl) rfl ?_
    refine OS.nil ?_
    repeat refine LS.seq ?_
    refine LS.region rfl ?_
    refine OS.pure rfl (fun _ => rfl) rfl ?_
    refine OS.pure rfl (fun _ => rfl) rfl ?_
    refine OS.pure rfl (fun _ => rfl) rfl ?_
    refine OS.at1 (j := j) hv (nums_at hjl) rfl rfl rfl rfl rfl rfl (fun r0 o0 row0 cs0 m0 c0 g0 => ?_)
    refine ⟨_, rfl, ?_⟩
    refine OS.read rfl (e_loadm m0 c0 rfl rfl (part_one rfl g0)) rfl ?_
    refine OS.call noGo rfl (fun _ => rfl) ((hf l[j] (List.getElem_mem hjl)).mono ?_)
    rintro u L₁ ⟨rfl, e₁⟩
    subst e₁
    refine ⟨_, rfl, ?_⟩
    refine OS.nil ?_
    cases hp : p l[j] with
    | true =>
      repeat refine LS.seq ?_
      refine LS.cond rfl (fun h => ?_) (fun h => ?_)
      · repeat refine LS.seq ?_
        refine LS.region rfl ?_
        refine OS.pure rfl (fun _ => rfl) rfl ?_
        refine OS.pure rfl (fun _ => rfl) rfl ?_
        refine OS.nil ?_
        refine LS.ret ⟨_, fun _ _ => rfl, ?_⟩
        exact ⟨⟨j, .inl ⟨rfl, List.any_eq_true.2 ⟨_, List.getElem_mem hjl, hp⟩⟩⟩, rfl⟩
      · cases h
    | false =>
      repeat refine LS.seq ?_
      refine LS.cond rfl (fun h => ?_) (fun h => ?_)
      · cases h
      refine LS.skip ?_
      repeat refine LS.seq ?_
      refine LS.region rfl ?_
      refine OS.pure rfl (e_add (m := j) (n := 1) rfl rfl rfl (in_i64 (by omega) (by omega))) rfl ?_
      refine OS.pure rfl (fun _ => rfl) rfl ?_
      refine OS.nil ?_
      refine ⟨l.length - (j + 1), by omega, j + 1, rfl, by omega, ?_, rfl, rfl⟩
      rw [List.take_succ_eq_append_getElem hjl, List.any_append, hr]
      simp [hp]
  · have hc : (l.length : Int) ≤ (j : Int) := nlt_of hc
    have hje : j = l.length := by omega
    subst hje
    rw [List.take_length] at hr
    refine LS.exit ?_
    repeat refine LS.seq ?_
    refine LS.region rfl ?_
    refine OS.pure rfl (fun _ => rfl) rfl ?_
    refine OS.nil ?_
    refine LS.ret ⟨_, fun _ _ => rfl, ?_⟩
    exact ⟨⟨0, .inr ⟨rfl, hr⟩⟩, rfl⟩
theorem indexI_any {L : RL} {v : Value} {l : List Int} {f : Nat} {p : Int → Bool} (hv : SV 1 L v l.length (nums l)) (hn : l.length ≤ 9000000000000000) (hf : ∀ x ∈ l, CS Try.prog f [(Value.int .i64) x] L fun u L' => u = .bool (p x) ∧ L' = L) :
    CS Try.prog 42 [v, .func (.func f) #[] #[]] L fun u L' => u = .bool (l.any p) ∧ L' = L := by
  refine CS.mk (fn := Try.f42) rfl rfl rfl rfl ?_
  repeat refine LS.seq ?_
  refine LS.region rfl ?_
  refine OS.pure rfl (fun _ => rfl) rfl ?_
  refine OS.nil ?_
  repeat refine LS.seq ?_
  refine LS.region rfl ?_
  refine OS.pure rfl (fun _ => rfl) rfl ?_
  refine OS.pure rfl (fun _ => rfl) rfl ?_
  refine OS.call noGo rfl (fun _ => rfl) ((indexI_ct hv hn hf).mono ?_)
  rintro u L₁ ⟨⟨i, h⟩, e₁⟩
  subst e₁
  rcases h with ⟨rfl, h⟩ | ⟨rfl, h⟩
  · have hb : ileB 0 (i : Int) = true := ileB_iff.2 (by omega)
    refine ⟨_, rfl, ?_⟩
    refine OS.pure rfl (e_is (fun _ => rfl) (congrArg Value.bool hb)) rfl ?_
    refine OS.pure rfl (fun _ => rfl) rfl ?_
    refine OS.nil ?_
    refine LS.ret ⟨_, fun _ _ => rfl, ?_⟩
    exact ⟨by rw [h]; rfl, rfl⟩
  · refine ⟨_, rfl, ?_⟩
    refine OS.pure rfl (fun _ => rfl) rfl ?_
    refine OS.pure rfl (fun _ => rfl) rfl ?_
    refine OS.nil ?_
    refine LS.ret ⟨_, fun _ _ => rfl, ?_⟩
    exact ⟨by rw [h]; rfl, rfl⟩
theorem bytes_at {bs : List UInt8} {j : Nat} (h : j < bs.length) : (byteCells bs)[j]? = some (.int .u8 ((bs[j]'h).toNat : Nat)) := by simp [byteCells, h]
theorem indexB_ct {L : RL} {v : Value} {l : List UInt8} {f : Nat} {p : UInt8 → Bool} (hv : SV 1 L v l.length (byteCells l)) (hn : l.length ≤ 9000000000000000) (hf : ∀ x ∈ l, CS Try.prog f [(fun c => Value.int .u8 (UInt8.toNat c : Nat)) x] L fun u L' => u = .bool (p x) ∧ L' = L) :
    CS Try.prog 81 [v, .func (.func f) #[] #[]] L fun u L' => (∃ i : Nat, u = .int .i64 i ∧ l.any p = true ∨ u = .int .i64 (-1) ∧ l.any p = false) ∧ L' = L := by
  refine CS.mk (fn := Try.f81) rfl rfl rfl rfl ?_
  repeat refine LS.seq ?_
  refine LS.region rfl ?_
  refine OS.pure rfl (fun _ => rfl) rfl ?_
  refine OS.nil ?_
  repeat refine LS.seq ?_
  refine LS.region rfl ?_
  refine OS.pure rfl (fun _ => rfl) rfl ?_
  refine OS.pure rfl (e_len hv rfl rfl rfl rfl rfl) rfl ?_
  refine OS.pure rfl (fun _ => rfl) rfl ?_
  refine OS.nil ?_
  repeat refine LS.seq ?_
  refine LS.block ?_
  refine LS.loopJ [0, 1, 7, 8] (fun q a L' => ∃ j : Nat, q = l.length - j ∧ j ≤ l.length ∧ (l.take j).any p = false ∧ L' = L ∧ a = [v, .func (.func f) #[] #[], .chan none, .chan none, .chan none, .chan none, .chan none, .int .i64 (l.length : Nat), .int .i64 (j : Nat), .chan none, .chan none, .chan none, .chan none, .chan none, .chan none, .chan none, .chan none, .chan none, .chan none]) (n := l.length) rfl ⟨0, rfl, by omega, rfl, rfl, rfl⟩ ?_
  rintro q a L' ⟨j, rfl, hj, hr, rfl, rfl⟩
  repeat refine LS.seq ?_
  refine LS.region rfl ?_
  refine OS.pure rfl (fun _ => rfl) rfl ?_
  refine OS.nil ?_
  repeat refine LS.seq ?_
  refine LS.cond rfl (fun hc => ?_) (fun hc => ?_)
  · have hc : (j : Int) < l.length := lt_of hc
    have hjl : j < l.length := by omega
    refine LS.skip ?_
    repeat refine LS.seq ?_
    refine LS.block ?_
    repeat refine LS.seq ?_
    refine LS.region rfl ?_
    refine OS.pure rfl (fun _ => rfl) rfl ?_
    refine OS.pure rfl (fun _ => rfl) rfl ?_
    refine OS.nil ?_
    repeat refine LS.seq ?_
    refine LS.region rfl ?_
    refine OS.pure rfl (fun _ => rfl) rfl ?_
    refine OS.pure rfl (fun _ => rfl) rfl ?_
    refine OS.pure rfl (fun _ => rfl) rfl ?_
    refine OS.at1 (j := j) hv (bytes_at hjl) rfl rfl rfl rfl rfl rfl (fun r0 o0 row0 cs0 m0 c0 g0 => ?_)
    refine ⟨_, rfl, ?_⟩
    refine OS.read rfl (e_loadm m0 c0 rfl rfl (part_one rfl g0)) rfl ?_
    refine OS.call noGo rfl (fun _ => rfl) ((hf l[j] (List.getElem_mem hjl)).mono ?_)
    rintro u L₁ ⟨rfl, e₁⟩
    subst e₁
    refine ⟨_, rfl, ?_⟩
    refine OS.nil ?_
    cases hp : p l[j] with
    | true =>
      repeat refine LS.seq ?_
      refine LS.cond rfl (fun h => ?_) (fun h => ?_)
      · repeat refine LS.seq ?_
        refine LS.region rfl ?_
        refine OS.pure rfl (fun _ => rfl) rfl ?_
        refine OS.pure rfl (fun _ => rfl) rfl ?_
        refine OS.nil ?_
        refine LS.ret ⟨_, fun _ _ => rfl, ?_⟩
        exact ⟨⟨j, .inl ⟨rfl, List.any_eq_true.2 ⟨_, List.getElem_mem hjl, hp⟩⟩⟩, rfl⟩
      · cases h
    | false =>
      repeat refine LS.seq ?_
      refine LS.cond rfl (fun h => ?_) (fun h => ?_)
      · cases h
      refine LS.skip ?_
      repeat refine LS.seq ?_
      refine LS.region rfl ?_
      refine OS.pure rfl (e_add (m := j) (n := 1) rfl rfl rfl (in_i64 (by omega) (by omega))) rfl ?_
      refine OS.pure rfl (fun _ => rfl) rfl ?_
      refine OS.nil ?_
      refine ⟨l.length - (j + 1), by omega, j + 1, rfl, by omega, ?_, rfl, rfl⟩
      rw [List.take_succ_eq_append_getElem hjl, List.any_append, hr]
      simp [hp]
  · have hc : (l.length : Int) ≤ (j : Int) := nlt_of hc
    have hje : j = l.length := by omega
    subst hje
    rw [List.take_length] at hr
    refine LS.exit ?_
    repeat refine LS.seq ?_
    refine LS.region rfl ?_
    refine OS.pure rfl (fun _ => rfl) rfl ?_
    refine OS.nil ?_
    refine LS.ret ⟨_, fun _ _ => rfl, ?_⟩
    exact ⟨⟨0, .inr ⟨rfl, hr⟩⟩, rfl⟩
theorem indexB_any {L : RL} {v : Value} {l : List UInt8} {f : Nat} {p : UInt8 → Bool} (hv : SV 1 L v l.length (byteCells l)) (hn : l.length ≤ 9000000000000000) (hf : ∀ x ∈ l, CS Try.prog f [(fun c => Value.int .u8 (UInt8.toNat c : Nat)) x] L fun u L' => u = .bool (p x) ∧ L' = L) :
    CS Try.prog 61 [v, .func (.func f) #[] #[]] L fun u L' => u = .bool (l.any p) ∧ L' = L := by
  refine CS.mk (fn := Try.f61) rfl rfl rfl rfl ?_
  repeat refine LS.seq ?_
  refine LS.region rfl ?_
  refine OS.pure rfl (fun _ => rfl) rfl ?_
  refine OS.nil ?_
  repeat refine LS.seq ?_
  refine LS.region rfl ?_
  refine OS.pure rfl (fun _ => rfl) rfl ?_
  refine OS.pure rfl (fun _ => rfl) rfl ?_
  refine OS.call noGo rfl (fun _ => rfl) ((indexB_ct hv hn hf).mono ?_)
  rintro u L₁ ⟨⟨i, h⟩, e₁⟩
  subst e₁
  rcases h with ⟨rfl, h⟩ | ⟨rfl, h⟩
  · have hb : ileB 0 (i : Int) = true := ileB_iff.2 (by omega)
    refine ⟨_, rfl, ?_⟩
    refine OS.pure rfl (e_is (fun _ => rfl) (congrArg Value.bool hb)) rfl ?_
    refine OS.pure rfl (fun _ => rfl) rfl ?_
    refine OS.nil ?_
    refine LS.ret ⟨_, fun _ _ => rfl, ?_⟩
    exact ⟨by rw [h]; rfl, rfl⟩
  · refine ⟨_, rfl, ?_⟩
    refine OS.pure rfl (fun _ => rfl) rfl ?_
    refine OS.pure rfl (fun _ => rfl) rfl ?_
    refine OS.nil ?_
    refine LS.ret ⟨_, fun _ _ => rfl, ?_⟩
    exact ⟨by rw [h]; rfl, rfl⟩
theorem blank_ct {L : RL} {v : Value} {bs : List UInt8} (hv : SV 1 L v bs.length (byteCells bs)) (hn : bs.length ≤ 9000000000000000) : CS Try.prog 32 [v] L fun u L' => u = .bool (bs.all (fun c => c == 0)) ∧ L' = L := by
  have hb : (!bs.any (fun c => c != 0)) = bs.all (fun c => c == 0) := by
    rw [List.all_eq_not_any_not]; rfl
  refine CS.mk (fn := Try.f32) rfl rfl rfl rfl ?_
  repeat refine LS.seq ?_
  refine LS.region rfl ?_
  refine OS.pure rfl (fun _ => rfl) rfl ?_
  refine OS.nil ?_
  repeat refine LS.seq ?_
  refine LS.region rfl ?_
  refine OS.pure rfl (fun _ => rfl) rfl ?_
  refine OS.call noGo rfl (fun _ => rfl) (((indexB_any (p := fun c => c != 0) hv hn (fun c hc => notZero_ct))).mono ?_)
  rintro u L' ⟨rfl, rfl⟩
  refine ⟨_, rfl, ?_⟩
  refine OS.pure rfl (e_is (fun _ => rfl) (congrArg Value.bool hb)) rfl ?_
  refine OS.pure rfl (fun _ => rfl) rfl ?_
  refine OS.nil ?_
  refine LS.ret ⟨_, fun _ _ => rfl, ?_⟩
  exact ⟨rfl, rfl⟩
/-- A node, as its parts lie in rows. -/
structure NV (L : RL) (n : Nd) (v1 v2 v3 : Value) : Prop where
  k : SV 1 L v1 n.ks.length (tx n.ks)
  v : SV 1 L v2 n.vs.length (tx n.vs)
  z : SV 1 L v3 n.kids.length (nums n.kids)
  kn : n.ks.length ≤ 9000000000000000
  vn : n.vs.length ≤ 9000000000000000
  zn : n.kids.length ≤ 9000000000000000
  kl : ∀ k ∈ n.ks, k.length ≤ 9000000000000000
  vl : ∀ k ∈ n.vs, k.length ≤ 9000000000000000
theorem NV.mono {L L' : RL} {n : Nd} {v1 v2 v3 : Value} (h : NV L n v1 v2 v3) (hm : ∀ p, p ∈ L → p ∈ L') : NV L' n v1 v2 v3 := ⟨h.k.mono hm, h.v.mono hm, h.z.mono hm, h.kn, h.vn, h.zn, h.kl, h.vl⟩
theorem NV.cons {L : RL} {x : Nat × ARow} {n : Nd} {v1 v2 v3 : Value} (h : NV L n v1 v2 v3) : NV (x :: L) n v1 v2 v3 := h.mono fun _ hp => List.mem_cons_of_mem _ hp
abbrev ndV (b : Bool) (v1 v2 v3 : Value) : Value := .agg #[.bool b, v1, v2, v3]
abbrev ndRow (b : Bool) (v1 v2 v3 : Value) : ARow := .cells 28 [.bool b, v1, v2, v3]
abbrev nrRow (b : Bool) (v1 v2 v3 : Value) : ARow := .cells 25 [.bool b, v1, v2, v3]
theorem mayBe_ct {L : RL} {n : Nd} {v1 v2 v3 : Value} (h : NV L n v1 v2 v3) : CS Try.prog 24 [ndV n.leaf v1 v2 v3] L fun u L' => u = .bool (mayN n) ∧ L' = L := by
  suffices g : CS Try.prog 24 [ndV n.leaf v1 v2 v3] L fun u L' => u = .bool (mayN n) ∧ ∃ x, L' = x :: L by
    exact g.less fun u L' ⟨h1, x, h2⟩ => ⟨L, by rw [h2]; exact Sub.tail, h1, rfl⟩
  have hkn := h.kn
  have hvn := h.vn
  have hzn := h.zn
  obtain ⟨lf, ks, vs, kids⟩ := n
  simp only at hkn hvn hzn
  refine CS.mk (fn := Try.f24) rfl rfl rfl rfl ?_
  repeat refine LS.seq ?_
  refine LS.region rfl ?_
  refine OS.fresh rfl (e_new (fun _ => rfl) rfl) (fun _ => rfl) (fun rn => ?_)
  refine OS.pure rfl (fun _ => rfl) rfl ?_
  refine OS.nil ?_
  have h := h.cons (x := (rn, ndRow lf v1 v2 v3))
  obtain ⟨hk, hv, hz, _, _, _, hkl, hvl⟩ := h
  simp only at hk hv hz hkl hvl
  repeat refine LS.seq ?_
  refine LS.region rfl ?_
  refine OS.pure rfl (fun _ => rfl) rfl ?_
  refine OS.read rfl (e_load 0 rfl rfl rfl rfl rfl) rfl ?_
  refine OS.call noGo rfl (fun _ => rfl) ((keysMayBe_ct hk hkn hkl).mono ?_)
  rintro u L' ⟨rfl, rfl⟩
  refine ⟨_, rfl, ?_⟩
  refine OS.pure rfl (fun _ => rfl) rfl ?_
  refine OS.nil ?_
  unfold mayN
  cases hr : rise [] ks with
  | false =>
    simp only
    repeat refine LS.seq ?_
    refine LS.cond rfl (fun h => ?_) (fun h => ?_)
    · repeat refine LS.seq ?_
      refine LS.region rfl ?_
      refine OS.pure rfl (fun _ => rfl) rfl ?_
      refine OS.nil ?_
      refine LS.ret ⟨_, fun _ _ => rfl, ?_⟩
      exact ⟨rfl, _, rfl⟩
    · cases h
  | true =>
    simp only
    repeat refine LS.seq ?_
    refine LS.cond rfl (fun h => ?_) (fun h => ?_)
    · cases h
    refine LS.skip ?_
    cases lf with
    | true =>
      repeat refine LS.seq ?_
      refine LS.region rfl ?_
      refine OS.pure rfl (fun _ => rfl) rfl ?_
      refine OS.read rfl (e_load 0 rfl rfl rfl rfl rfl) rfl ?_
      refine OS.nil ?_
      repeat refine LS.seq ?_
      refine LS.cond rfl (fun h => ?_) (fun h => by cases h)
      by_cases h1 : vs.length = ks.length
      · have b1 : ieqB (vs.length : Int) (ks.length : Nat) = true := ieqN.trans (decide_eq_true h1)
        by_cases h2 : kids.length = 0
        · have b2 : ieqB (kids.length : Int) (0 : Nat) = true := ieqN.trans (decide_eq_true h2)
          have hb : (!vs.any (fun s => decide (64 < s.length))) = vs.all (fun s => decide (s.length ≤ 64)) := by
            rw [List.all_eq_not_any_not]; congr 2; funext s; by_cases h : s.length ≤ 64 <;> simp [h] <;> omega
          repeat refine LS.seq ?_
          refine LS.region rfl ?_
          refine OS.pure rfl (fun _ => rfl) rfl ?_
          refine OS.read rfl (e_load 0 rfl rfl rfl rfl rfl) rfl ?_
          refine OS.pure rfl (e_len hv rfl rfl rfl rfl rfl) rfl ?_
          refine OS.pure rfl (fun _ => rfl) rfl ?_
          refine OS.read rfl (e_load 0 rfl rfl rfl rfl rfl) rfl ?_
          refine OS.pure rfl (e_len hk rfl rfl rfl rfl rfl) rfl ?_
          refine OS.pure rfl (e_is (fun _ => rfl) (congrArg Value.bool b1)) rfl ?_
          refine OS.pure rfl (fun _ => rfl) rfl ?_
          refine OS.pure rfl (fun _ => rfl) rfl ?_
          refine OS.read rfl (e_load 0 rfl rfl rfl rfl rfl) rfl ?_
          refine OS.pure rfl (e_len hz rfl rfl rfl rfl rfl) rfl ?_
          refine OS.pure rfl (e_is (fun _ => rfl) (congrArg Value.bool b2)) rfl ?_
          refine OS.pure rfl (fun _ => rfl) rfl ?_
          refine OS.pure rfl (fun _ => rfl) rfl ?_
          refine OS.pure rfl (fun _ => rfl) rfl ?_
          refine OS.read rfl (e_load 0 rfl rfl rfl rfl rfl) rfl ?_
          refine OS.call noGo rfl (fun _ => rfl) (((indexT_any (p := fun s => decide (64 < s.length)) hv hvn (fun s hs => noValue_ct (hvl s hs)))).mono ?_)
          rintro u L' ⟨rfl, rfl⟩
          refine ⟨_, rfl, ?_⟩
          refine OS.pure rfl (e_is (fun _ => rfl) (congrArg Value.bool hb)) rfl ?_
          refine OS.pure rfl (fun _ => rfl) rfl ?_
          refine OS.pure rfl (fun _ => rfl) rfl ?_
          refine OS.nil ?_
          refine LS.ret ⟨_, fun _ _ => rfl, ?_⟩
          exact ⟨by simp [h1, h2, tupleB], _, rfl⟩
        · have b2 : ieqB (kids.length : Int) (0 : Nat) = false := ieqN.trans (decide_eq_false h2)
          repeat refine LS.seq ?_
          refine LS.region rfl ?_
          refine OS.pure rfl (fun _ => rfl) rfl ?_
          refine OS.read rfl (e_load 0 rfl rfl rfl rfl rfl) rfl ?_
          refine OS.pure rfl (e_len hv rfl rfl rfl rfl rfl) rfl ?_
          refine OS.pure rfl (fun _ => rfl) rfl ?_
          refine OS.read rfl (e_load 0 rfl rfl rfl rfl rfl) rfl ?_
          refine OS.pure rfl (e_len hk rfl rfl rfl rfl rfl) rfl ?_
          refine OS.pure rfl (e_is (fun _ => rfl) (congrArg Value.bool b1)) rfl ?_
          refine OS.pure rfl (fun _ => rfl) rfl ?_
          refine OS.pure rfl (fun _ => rfl) rfl ?_
          refine OS.read rfl (e_load 0 rfl rfl rfl rfl rfl) rfl ?_
          refine OS.pure rfl (e_len hz rfl rfl rfl rfl rfl) rfl ?_
          refine OS.pure rfl (e_is (fun _ => rfl) (congrArg Value.bool b2)) rfl ?_
          refine OS.pure rfl (fun _ => rfl) rfl ?_
          refine OS.pure rfl (fun _ => rfl) rfl ?_
          refine OS.skip rfl rfl ?_
          refine OS.skip rfl rfl ?_
          refine OS.skip rfl rfl ?_
          refine OS.skip rfl rfl ?_
          refine OS.pure rfl (fun _ => rfl) rfl ?_
          refine OS.pure rfl (fun _ => rfl) rfl ?_
          refine OS.nil ?_
          refine LS.ret ⟨_, fun _ _ => rfl, ?_⟩
          exact ⟨by simp [h2, tupleB], _, rfl⟩
      · have b1 : ieqB (vs.length : Int) (ks.length : Nat) = false := ieqN.trans (decide_eq_false h1)
        repeat refine LS.seq ?_
        refine LS.region rfl ?_
        refine OS.pure rfl (fun _ => rfl) rfl ?_
        refine OS.read rfl (e_load 0 rfl rfl rfl rfl rfl) rfl ?_
        refine OS.pure rfl (e_len hv rfl rfl rfl rfl rfl) rfl ?_
        refine OS.pure rfl (fun _ => rfl) rfl ?_
        refine OS.read rfl (e_load 0 rfl rfl rfl rfl rfl) rfl ?_
        refine OS.pure rfl (e_len hk rfl rfl rfl rfl rfl) rfl ?_
        refine OS.pure rfl (e_is (fun _ => rfl) (congrArg Value.bool b1)) rfl ?_
        refine OS.pure rfl (fun _ => rfl) rfl ?_
        refine OS.skip rfl rfl ?_
        refine OS.skip rfl rfl ?_
        refine OS.skip rfl rfl ?_
        refine OS.skip rfl rfl ?_
        refine OS.pure rfl (fun _ => rfl) rfl ?_
        refine OS.pure rfl (fun _ => rfl) rfl ?_
        refine OS.skip rfl rfl ?_
        refine OS.skip rfl rfl ?_
        refine OS.skip rfl rfl ?_
        refine OS.skip rfl rfl ?_
        refine OS.pure rfl (fun _ => rfl) rfl ?_
        refine OS.pure rfl (fun _ => rfl) rfl ?_
        refine OS.nil ?_
        refine LS.ret ⟨_, fun _ _ => rfl, ?_⟩
        exact ⟨by simp [h1, tupleB], _, rfl⟩
    | false =>
      repeat refine LS.seq ?_
      refine LS.region rfl ?_
      refine OS.pure rfl (fun _ => rfl) rfl ?_
      refine OS.read rfl (e_load 0 rfl rfl rfl rfl rfl) rfl ?_
      refine OS.nil ?_
      repeat refine LS.seq ?_
      refine LS.cond rfl (fun h => ?_) (fun h => ?_)
      · cases h
      refine LS.skip ?_
      by_cases h1 : kids.length = ks.length + 1
      · have b1 : ieqB (kids.length : Int) ((ks.length + 1 : Nat) : Int) = true := ieqN.trans (decide_eq_true h1)
        by_cases h2 : vs.length = 0
        · have b2 : ieqB (vs.length : Int) (0 : Nat) = true := ieqN.trans (decide_eq_true h2)
          have hb : (!kids.any badKid) = kids.all (fun z => decide (0 ≤ z ∧ z ≤ 32768)) := by
            rw [List.all_eq_not_any_not]; congr 2; funext s; unfold badKid; by_cases h : 0 ≤ s ∧ s ≤ 32768 <;> simp [h] <;> omega
          repeat refine LS.seq ?_
          refine LS.region rfl ?_
          refine OS.pure rfl (fun _ => rfl) rfl ?_
          refine OS.read rfl (e_load 0 rfl rfl rfl rfl rfl) rfl ?_
          refine OS.pure rfl (e_len hz rfl rfl rfl rfl rfl) rfl ?_
          refine OS.pure rfl (fun _ => rfl) rfl ?_
          refine OS.read rfl (e_load 0 rfl rfl rfl rfl rfl) rfl ?_
          refine OS.pure rfl (e_len hk rfl rfl rfl rfl rfl) rfl ?_
          refine OS.pure rfl (e_add (m := ks.length) (n := 1) rfl rfl rfl (in_i64 (by omega) (by omega))) rfl ?_
          refine OS.pure rfl (e_is (fun _ => rfl) (congrArg Value.bool b1)) rfl ?_
          refine OS.pure rfl (fun _ => rfl) rfl ?_
          refine OS.pure rfl (fun _ => rfl) rfl ?_
          refine OS.read rfl (e_load 0 rfl rfl rfl rfl rfl) rfl ?_
          refine OS.pure rfl (e_len hv rfl rfl rfl rfl rfl) rfl ?_
          refine OS.pure rfl (e_is (fun _ => rfl) (congrArg Value.bool b2)) rfl ?_
          refine OS.pure rfl (fun _ => rfl) rfl ?_
          refine OS.pure rfl (fun _ => rfl) rfl ?_
          refine OS.pure rfl (fun _ => rfl) rfl ?_
          refine OS.read rfl (e_load 0 rfl rfl rfl rfl rfl) rfl ?_
          refine OS.call noGo rfl (fun _ => rfl) (((indexI_any (p := badKid) hz hzn (fun z _ => noKid_ct))).mono ?_)
          rintro u L' ⟨rfl, rfl⟩
          refine ⟨_, rfl, ?_⟩
          refine OS.pure rfl (e_is (fun _ => rfl) (congrArg Value.bool hb)) rfl ?_
          refine OS.pure rfl (fun _ => rfl) rfl ?_
          refine OS.pure rfl (fun _ => rfl) rfl ?_
          refine OS.nil ?_
          refine LS.ret ⟨_, fun _ _ => rfl, ?_⟩
          exact ⟨by simp [h1, h2, tupleB], _, rfl⟩
        · have b2 : ieqB (vs.length : Int) (0 : Nat) = false := ieqN.trans (decide_eq_false h2)
          repeat refine LS.seq ?_
          refine LS.region rfl ?_
          refine OS.pure rfl (fun _ => rfl) rfl ?_
          refine OS.read rfl (e_load 0 rfl rfl rfl rfl rfl) rfl ?_
          refine OS.pure rfl (e_len hz rfl rfl rfl rfl rfl) rfl ?_
          refine OS.pure rfl (fun _ => rfl) rfl ?_
          refine OS.read rfl (e_load 0 rfl rfl rfl rfl rfl) rfl ?_
          refine OS.pure rfl (e_len hk rfl rfl rfl rfl rfl) rfl ?_
          refine OS.pure rfl (e_add (m := ks.length) (n := 1) rfl rfl rfl (in_i64 (by omega) (by omega))) rfl ?_
          refine OS.pure rfl (e_is (fun _ => rfl) (congrArg Value.bool b1)) rfl ?_
          refine OS.pure rfl (fun _ => rfl) rfl ?_
          refine OS.pure rfl (fun _ => rfl) rfl ?_
          refine OS.read rfl (e_load 0 rfl rfl rfl rfl rfl) rfl ?_
          refine OS.pure rfl (e_len hv rfl rfl rfl rfl rfl) rfl ?_
          refine OS.pure rfl (e_is (fun _ => rfl) (congrArg Value.bool b2)) rfl ?_
          refine OS.pure rfl (fun _ => rfl) rfl ?_
          refine OS.pure rfl (fun _ => rfl) rfl ?_
          refine OS.skip rfl rfl ?_
          refine OS.skip rfl rfl ?_
          refine OS.skip rfl rfl ?_
          refine OS.skip rfl rfl ?_
          refine OS.pure rfl (fun _ => rfl) rfl ?_
          refine OS.pure rfl (fun _ => rfl) rfl ?_
          refine OS.nil ?_
          refine LS.ret ⟨_, fun _ _ => rfl, ?_⟩
          exact ⟨by simp [h2, tupleB], _, rfl⟩
      · have b1 : ieqB (kids.length : Int) ((ks.length + 1 : Nat) : Int) = false := ieqN.trans (decide_eq_false h1)
        repeat refine LS.seq ?_
        refine LS.region rfl ?_
        refine OS.pure rfl (fun _ => rfl) rfl ?_
        refine OS.read rfl (e_load 0 rfl rfl rfl rfl rfl) rfl ?_
        refine OS.pure rfl (e_len hz rfl rfl rfl rfl rfl) rfl ?_
        refine OS.pure rfl (fun _ => rfl) rfl ?_
        refine OS.read rfl (e_load 0 rfl rfl rfl rfl rfl) rfl ?_
        refine OS.pure rfl (e_len hk rfl rfl rfl rfl rfl) rfl ?_
        refine OS.pure rfl (e_add (m := ks.length) (n := 1) rfl rfl rfl (in_i64 (by omega) (by omega))) rfl ?_
        refine OS.pure rfl (e_is (fun _ => rfl) (congrArg Value.bool b1)) rfl ?_
        refine OS.pure rfl (fun _ => rfl) rfl ?_
        refine OS.skip rfl rfl ?_
        refine OS.skip rfl rfl ?_
        refine OS.skip rfl rfl ?_
        refine OS.skip rfl rfl ?_
        refine OS.pure rfl (fun _ => rfl) rfl ?_
        refine OS.pure rfl (fun _ => rfl) rfl ?_
        refine OS.skip rfl rfl ?_
        refine OS.skip rfl rfl ?_
        refine OS.skip rfl rfl ?_
        refine OS.skip rfl rfl ?_
        refine OS.pure rfl (fun _ => rfl) rfl ?_
        refine OS.pure rfl (fun _ => rfl) rfl ?_
        refine OS.nil ?_
        refine LS.ret ⟨_, fun _ _ => rfl, ?_⟩
        exact ⟨by simp [h1, tupleB], _, rfl⟩
end Go.Proofs.Ytdffhllecojgcaa
