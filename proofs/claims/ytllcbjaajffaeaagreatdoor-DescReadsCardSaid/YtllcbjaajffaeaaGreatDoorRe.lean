import Derived.Test.YtllcbjaajffaeaaGreatDoorRcM
set_option linter.deprecated false
namespace Go.Pd
theorem cuts_len {c : UInt8} : ∀ {s w : B}, w ∈ cuts c s → w.length ≤ s.length
  | [], w, h => by simp [cuts] at h; subst h; simp
  | b :: t, w, h => by
    unfold cuts at h
    split at h
    · rcases List.mem_cons.1 h with rfl | h
      · simp
      · have := cuts_len h; simp; omega
    · split at h
      · rename_i x r e
        rcases List.mem_cons.1 h with rfl | h
        · have := cuts_len (c := c) (s := t) (w := x) (by rw [e]; simp)
          simp; exact this
        · have := cuts_len (c := c) (s := t) (w := w) (by rw [e]; simp [h])
          simp; omega
      · rename_i e
        simp at h; subst h; simp
theorem take_one {A : Type} {l : List A} {k : Nat} {x : A} (h : l[k]? = some x) : l.take (k + 1) = l.take k ++ [x] := by
  rw [List.take_succ, h]; rfl
end Go.Pd
namespace Go.Proofs.YtllcbjaajffaeaaGreatDoor
open Go.Am
set_option linter.unusedVariables false
set_option maxRecDepth 20000
set_option maxHeartbeats 4000000
attribute [local irreducible] OS LSr ODS CS YS
section
variable {L : RL}
theorem u8_le {c : UInt8} {k : Int} (n : Nat) (hk : k = (n : Int)) : ileB k (c.toNat : Nat) = decide (n ≤ c.toNat) := by rw [ileB_eq, hk, Bool.eq_iff_iff]; simp
theorem u8_ge {c : UInt8} {k : Int} (n : Nat) (hk : k = (n : Int)) : ileB (c.toNat : Nat) k = decide (c.toNat ≤ n) := by rw [ileB_eq, hk, Bool.eq_iff_iff]; simp
theorem isSmall_ct (c : UInt8) : CS Tryz.prog 64 [.int .u8 (c.toNat : Nat)] L fun v L' => v = .bool (Go.Pd.lowB c) ∧ L' = L := by
  have e : Go.Pd.lowB c = (ileB 97 (c.toNat : Nat) && ileB (c.toNat : Nat) 122) := by rw [u8_le (k := 97) 97 rfl, u8_ge (k := 122) 122 rfl]; rfl
  rw [e]
  refine CS.mk (fn := Tryz.f64) rfl rfl rfl rfl ?_
  rcases tf (ileB 97 (c.toNat : Nat)) with h1 | h1 <;> rcases tf (ileB (c.toNat : Nat) 122) with h2 | h2 <;> rw [h1, h2]
  all_goals
    refine yG ?_
    exact ⟨rfl, rfl⟩
def ofName (c : UInt8) : Bool := Go.Pd.lowB c || (Go.Pd.digB c || (c == 45 || c == 95))
theorem isOfName_ct (c : UInt8) : CS Tryz.prog 66 [.int .u8 (c.toNat : Nat)] L fun v L' => v = .bool (ofName c) ∧ L' = L := by
  have e : ofName c = (Go.Pd.lowB c || ((ileB 48 (c.toNat : Nat) && ileB (c.toNat : Nat) 57) || (ieqB (c.toNat : Nat) 45 || ieqB (c.toNat : Nat) 95))) := by
    rw [u8_le (k := 48) 48 rfl, u8_ge (k := 57) 57 rfl, cmp_u8 (k := 45) c 45 rfl, cmp_u8 (k := 95) c 95 rfl]; rfl
  rw [e]
  refine CS.mk (fn := Tryz.f66) rfl rfl rfl rfl ?_
  refine yG ?_
  refine OS.call noGo rfl (fun _ => rfl) ((isSmall_ct c).mono ?_)
  rintro v L' ⟨rfl, rfl⟩
  refine ⟨_, rfl, ?_⟩
  rcases tf (Go.Pd.lowB c) with h0 | h0
  · rw [h0]
    refine yG ?_
    exact ⟨rfl, rfl⟩
  rcases tf (ileB 48 (c.toNat : Nat)) with h1 | h1 <;> rcases tf (ileB (c.toNat : Nat) 57) with h2 | h2 <;> rcases tf (ieqB (c.toNat : Nat) 45) with h3 | h3 <;> rcases tf (ieqB (c.toNat : Nat) 95) with h4 | h4 <;> rw [h0, h1, h2, h3, h4]
  all_goals
    refine yG ?_
    exact ⟨rfl, rfl⟩
def ofPath (c : UInt8) : Bool := ofName c || (Go.Pd.upB c || c == 46)
theorem isOfPath_ct (c : UInt8) : CS Tryz.prog 68 [.int .u8 (c.toNat : Nat)] L fun v L' => v = .bool (ofPath c) ∧ L' = L := by
  have e : ofPath c = (ofName c || ((ileB 65 (c.toNat : Nat) && ileB (c.toNat : Nat) 90) || ieqB (c.toNat : Nat) 46)) := by
    rw [u8_le (k := 65) 65 rfl, u8_ge (k := 90) 90 rfl, cmp_u8 (k := 46) c 46 rfl]; rfl
  rw [e]
  refine CS.mk (fn := Tryz.f68) rfl rfl rfl rfl ?_
  refine yG ?_
  refine OS.call noGo rfl (fun _ => rfl) ((isOfName_ct c).mono ?_)
  rintro v L' ⟨rfl, rfl⟩
  refine ⟨_, rfl, ?_⟩
  rcases tf (ofName c) with h0 | h0
  · rw [h0]
    refine yG ?_
    exact ⟨rfl, rfl⟩
  rcases tf (ileB 65 (c.toNat : Nat)) with h1 | h1 <;> rcases tf (ileB (c.toNat : Nat) 90) with h2 | h2 <;> rcases tf (ieqB (c.toNat : Nat) 46) with h3 | h3 <;> rw [h0, h1, h2, h3]
  all_goals
    refine yG ?_
    exact ⟨rfl, rfl⟩
def ofWord (c : UInt8) : Bool := decide (33 ≤ c.toNat) && decide (c.toNat ≤ 126)
theorem isWord1_ct (c : UInt8) : CS Tryz.prog 157 [.int .u8 (c.toNat : Nat)] L fun v L' => v = .bool (ofWord c) ∧ L' = L := by
  have e : ofWord c = (ileB 33 (c.toNat : Nat) && ileB (c.toNat : Nat) 126) := by rw [u8_le (k := 33) 33 rfl, u8_ge (k := 126) 126 rfl]; rfl
  rw [e]
  refine CS.mk (fn := Tryz.f157) rfl rfl rfl rfl ?_
  rcases tf (ileB 33 (c.toNat : Nat)) with h1 | h1 <;> rcases tf (ileB (c.toNat : Nat) 126) with h2 | h2 <;> rw [h1, h2]
  all_goals
    refine yG ?_
    exact ⟨rfl, rfl⟩
theorem consists_ct {f : FuncId} {p : UInt8 → Bool} (hf : ∀ c, CS Tryz.prog f [.int .u8 (c.toNat : Nat)] L fun v L' => v = .bool (p c) ∧ L' = L) (s : List UInt8) (hs : s.length ≤ 1000000000000) :
    CS Tryz.prog 65 [str s, .func (.func f) #[] #[]] L fun v L' => v = .bool (s.all p) ∧ L' = L := by
  refine CS.mk (fn := Tryz.f65) rfl rfl rfl rfl ?_
  refine yG ?_
  refine LS.loopJ [0, 1, 7, 8] (fun q a L' => ∃ k : Nat, q = s.length - k ∧ k ≤ s.length ∧ (s.take k).all p = true ∧ L' = L ∧ a = [str s, .func (.func f) #[] #[], .chan none, .chan none, .chan none, .chan none, .chan none, .int .i64 (s.length : Nat), .int .i64 (k : Nat), .chan none, .chan none, .chan none, .chan none, .chan none, .chan none, .chan none, .chan none, .chan none]) (n := s.length) rfl ⟨0, rfl, by omega, rfl, rfl, rfl⟩ ?_
  rintro q a L' ⟨k, rfl, hk, hall, rfl, rfl⟩
  refine yG ?_
  repeat refine LS.seq ?_
  refine LS.cond rfl (fun hc => ?_) (fun hc => ?_)
  · have hc := lt_of hc
    have hkl : k < s.length := by omega
    obtain ⟨c, hcb⟩ : ∃ c, s[k]? = some c := ⟨_, List.getElem?_eq_getElem hkl⟩
    refine LS.skip ?_
    refine yG ?_
    refine OS.call noGo rfl (fun _ => rfl) ((hf c).mono ?_)
    rintro v L' ⟨rfl, rfl⟩
    refine ⟨_, rfl, ?_⟩
    rcases tf (p c) with h | h
    · rw [h]
      refine yG ?_
      exact ⟨s.length - (k + 1), by omega, k + 1, rfl, by omega, by rw [take_snoc hcb, List.all_append, hall]; simp [h], rfl, rfl⟩
    · rw [h]
      refine yG ?_
      refine ⟨?_, rfl⟩
      have : s.all p = false := by
        rw [Bool.eq_false_iff]
        intro hh
        have := List.all_eq_true.1 hh c (List.mem_of_getElem? hcb)
        rw [h] at this; cases this
      rw [this]; rfl
  · have hc := nlt_of hc
    obtain rfl : k = s.length := by omega
    refine LS.exit ?_
    refine yG ?_
    rw [List.take_length] at hall
    rw [hall]
    exact ⟨rfl, rfl⟩
theorem nameB_eq (s : List UInt8) : Go.Pd.nameB s = (decide (s.length ≤ 24) && ((match s with | [] => false | c :: _ => Go.Pd.lowB c) && s.all ofName)) := rfl
theorem Name_ct (s : List UInt8) (hs : s.length ≤ 9000000000000000) : CS Tryz.prog 37 [str s] L fun v L' => v = .bool (Go.Pd.nameB s) ∧ L' = L := by
  rw [nameB_eq]
  refine CS.mk (fn := Tryz.f37) rfl rfl rfl rfl ?_
  cases s with
  | nil =>
    refine yG ?_
    exact ⟨rfl, rfl⟩
  | cons c s =>
    have hb : (!bytesEq (c :: s) []) = true := rfl
    by_cases hl : (c :: s).length ≤ 24
    · have hb2 : ileB (((c :: s).length : Nat) : Int) 24 = true := by rw [ileB_eq]; simp at hl ⊢; omega
      refine yG ?_
      refine OS.pure rfl (e_byte (j := 0) rfl rfl rfl rfl rfl) rfl ?_
      refine OS.call noGo rfl (fun _ => rfl) ((isSmall_ct c).mono ?_)
      rintro v L' ⟨rfl, rfl⟩
      refine ⟨_, rfl, ?_⟩
      rcases tf (Go.Pd.lowB c) with h | h
      · rw [h]
        refine yG ?_
        refine OS.call noGo rfl (fun _ => rfl) ((consists_ct (p := ofName) (fun c => isOfName_ct c) (c :: s) (Nat.le_trans hl (by decide))).mono ?_)
        rintro v L' ⟨rfl, rfl⟩
        refine ⟨_, rfl, ?_⟩
        refine yG ?_
        rw [decide_eq_true hl]
        refine ⟨congrArg Value.bool ?_, rfl⟩
        simp [h]
      · rw [h]
        refine yG ?_
        rw [decide_eq_true hl]
        refine ⟨congrArg Value.bool ?_, rfl⟩
        simp [h]
    · have hb2 : ileB (((c :: s).length : Nat) : Int) 24 = false := by rw [ileB_eq]; simp at hl ⊢; omega
      refine yG ?_
      rw [decide_eq_false hl]
      exact ⟨rfl, rfl⟩
theorem isWord_ct (s : List UInt8) (hs : s.length ≤ 1000000000000) : CS Tryz.prog 132 [str s] L fun v L' => v = .bool (Go.Pd.wordB s) ∧ L' = L := by
  have e : Go.Pd.wordB s = ((!bytesEq s [] && ileB ((s.length : Nat) : Int) 64) && s.all ofWord) := by
    rw [beq_bytes, ileB_eq]
    unfold Go.Pd.wordB
    congr 1
    congr 1
    · simp
    · rw [Bool.eq_iff_iff]; simp; omega
  rw [e]
  refine CS.mk (fn := Tryz.f132) rfl rfl rfl rfl ?_
  rcases tf (!bytesEq s []) with h1 | h1
  · rcases tf (ileB ((s.length : Nat) : Int) 64) with h2 | h2
    · rw [h1, h2]
      refine yG ?_
      refine OS.call noGo rfl (fun _ => rfl) ((consists_ct (p := ofWord) (fun c => isWord1_ct c) s hs).mono ?_)
      rintro v L' ⟨rfl, rfl⟩
      refine ⟨_, rfl, ?_⟩
      refine yG ?_
      exact ⟨rfl, rfl⟩
    · rw [h1, h2]
      refine yG ?_
      exact ⟨rfl, rfl⟩
  · rw [h1]
    refine yG ?_
    exact ⟨rfl, rfl⟩
theorem isPattern_ct (s : List UInt8) : CS Tryz.prog 129 [str s] L fun v L' => v = .bool (decide (chk s = 0)) ∧ L' = L := by
  refine CS.mk (fn := Tryz.f129) rfl rfl rfl rfl ?_
  refine yG ?_
  refine OS.call noGo rfl (fun _ => rfl) ((Check_ct s).mono ?_)
  rintro v L' ⟨rfl, rfl⟩
  refine ⟨_, rfl, ?_⟩
  by_cases h : chk s = 0
  · have hb : ieqB (chk s) 0 = true := by rw [ieqB_eq]; simpa using h
    refine yG ?_
    rw [decide_eq_true h]; exact ⟨rfl, rfl⟩
  · have hb : ieqB (chk s) 0 = false := by rw [ieqB_eq]; simpa using h
    refine yG ?_
    rw [decide_eq_false h]; exact ⟨rfl, rfl⟩
def goodP (p : List UInt8) : Bool := Go.Pd.partB p && p.all ofPath
theorem Path_ct (s : List UInt8) (hs0 : s.length ≤ 9000000000000000) : CS Tryz.prog 38 [str s] L fun v L' => v = .bool (decide (s.length ≤ 48) && (Go.Pd.cuts 47 s).all goodP) ∧ L' = L := by
  suffices h : CS Tryz.prog 38 [str s] L fun v L' => v = .bool (decide (s.length ≤ 48) && (Go.Pd.cuts 47 s).all goodP) ∧ Sub L L' from h.less fun v L' ⟨h1, h2⟩ => ⟨L, h2, h1, rfl⟩
  refine CS.mk (fn := Tryz.f38) rfl rfl rfl rfl ?_
  refine yG ?_
  refine OS.fresh rfl (e_new (fun _ => rfl) rfl) (fun _ => rfl) (fun r2 => ?_)
  by_cases hl : s.length ≤ 48
  · have hs : s.length ≤ 1000000000000 := Nat.le_trans hl (by decide)
    have hb : (!ileB ((s.length : Nat) : Int) 48) = false := by rw [ileB_eq]; simp; omega
    rw [decide_eq_true hl, Bool.true_and]
    refine yG ?_
    refine OS.call noGo rfl (fun _ => rfl) ((SplitSeq_ct s 47).mono ?_)
    rintro v L' ⟨rs, rp, rz, rfl, rfl⟩
    refine ⟨_, rfl, ?_⟩
    refine yG ?_
    refine LS.rangeFunc noGo rfl (fun r => ?_)
    generalize hp0 : LP.start _ _ _ _ = p0
    refine CS.sub (Sub.pulls [3, 3, 3] rfl) ((split1_ct (s := s) (c := 47) (r := r) (G := (r, .loop p0) :: (r2, .cells 4 [.bool false]) :: L) hs
      (fun k G => ((Go.Pd.cuts 47 s).take k).all goodP = true ∧ G = (r, .loop p0) :: (r2, .cells 4 [.bool false]) :: L)
      (fun G => (Go.Pd.cuts 47 s).all goodP = false ∧ G = (r, .loop (p0.left .ret)) :: (r2, .cells 4 [.bool false]) :: L)
      (fun k G hG => ⟨p0, by rw [hG.2]; simp⟩) ⟨rfl, rfl⟩ ?_).mono ?_)
    · rintro k w G X hget ⟨hall, rfl⟩
      subst hp0
      refine YS.mk 0 rfl rfl rfl ?_
      refine yG ?_
      refine ⟨rfl, 0, _, rfl, rfl, ?_⟩
      have hbad : goodP w = false → (Go.Pd.cuts 47 s).all goodP = false := fun h => by
        rw [Bool.eq_false_iff]
        intro hh
        have := List.all_eq_true.1 hh w (List.mem_of_getElem? hget)
        rw [h] at this; cases this
      have hwl : w.length ≤ 1000000000000 := Nat.le_trans (Go.Pd.cuts_len (List.mem_of_getElem? hget)) hs
      have e : goodP w = (!(bytesEq w [] || (bytesEq w [46] || bytesEq w [46, 46])) && w.all ofPath) := by rw [beq_bytes, beq_bytes, beq_bytes]; rfl
      rcases tf (bytesEq w []) with h1 | h1
      · refine yG ?_
        show LSr _ _ _ _ _ _
        refine LS.ret ?_
        exact ⟨0, _, rfl, rfl, _, rfl, .inr ⟨rfl, hbad (by rw [e]; simp [h1]), rfl⟩⟩
      rcases tf (bytesEq w [46]) with h2 | h2
      · refine yG ?_
        show LSr _ _ _ _ _ _
        refine LS.ret ?_
        exact ⟨0, _, rfl, rfl, _, rfl, .inr ⟨rfl, hbad (by rw [e]; simp [h2]), rfl⟩⟩
      rcases tf (bytesEq w [46, 46]) with h3 | h3
      · refine yG ?_
        show LSr _ _ _ _ _ _
        refine LS.ret ?_
        exact ⟨0, _, rfl, rfl, _, rfl, .inr ⟨rfl, hbad (by rw [e]; simp [h3]), rfl⟩⟩
      refine yG ?_
      refine OS.call noGo rfl (fun _ => rfl) ((consists_ct (p := ofPath) (fun c => isOfPath_ct c) w hwl).mono ?_)
      rintro v L' ⟨rfl, rfl⟩
      refine ⟨_, rfl, ?_⟩
      rcases tf (w.all ofPath) with h4 | h4
      · rw [h4]
        refine yG ?_
        exact ⟨0, _, rfl, rfl, _, rfl, .inl ⟨rfl, by rw [Go.Pd.take_one hget, List.all_append, hall, List.all_cons, e]; simp [h1, h2, h3, h4], rfl⟩⟩
      · rw [h4]
        refine yG ?_
        show LSr _ _ _ _ _ _
        refine LS.ret ?_
        exact ⟨0, _, rfl, rfl, _, rfl, .inr ⟨rfl, hbad (by rw [e]; simp [h4]), rfl⟩⟩
    · rintro v L' ⟨G', t, hj, rfl⟩
      rcases hj with ⟨hall, rfl⟩ | ⟨hall, rfl⟩
      · rw [List.take_length] at hall
        refine ⟨3, p0, _, rfl, rfl, by subst hp0; simp [LP.start], ?_⟩
        have hpend : p0.pending = none := by subst hp0; rfl
        rw [hpend]
        show LSr _ _ _ _ _ _
        refine yG ?_
        refine LS.ret ⟨_, res_cell 3 rfl rfl rfl rfl, ?_⟩
        rw [hall]
        exact ⟨rfl, Sub.drops 4 rfl⟩
      · refine ⟨3, _, _, rfl, rfl, by simp [LP.left], ?_⟩
        refine ⟨_, res_cell 3 rfl rfl rfl rfl, ?_⟩
        rw [hall]
        exact ⟨rfl, Sub.drops 4 rfl⟩
  · have hb : (!ileB ((s.length : Nat) : Int) 48) = true := by rw [ileB_eq]; simp; omega
    rw [decide_eq_false hl]
    refine yG ?_
    refine LS.ret ⟨_, res_cell 0 rfl rfl rfl rfl, ?_⟩
    exact ⟨rfl, Sub.drops 1 rfl⟩
end
end Go.Proofs.YtllcbjaajffaeaaGreatDoor
