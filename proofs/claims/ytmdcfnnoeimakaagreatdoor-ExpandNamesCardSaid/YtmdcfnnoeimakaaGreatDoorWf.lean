/- Layer 2: a word: what its marks tell, written to a builder by a closure. -/
import Derived.Test.YtmdcfnnoeimakaaGreatDoorWe
namespace Go.Proofs.YtmdcfnnoeimakaaGreatDoor
open Go.Am
set_option linter.unusedVariables false
set_option maxRecDepth 20000

theorem build_ct {X X' : RL} {lf : Nat} {cap : List Value} {bs : List UInt8} (hn : bs.length ≤ 100000000) (hf : ∀ b, CS Tryz.prog lf (ptr b :: cap) ((b, bu (.pointer none) (.slice none 0 0)) :: X) fun v L' => BD b bs X' L') :
    CS Tryz.prog 138 [.func (.func lf) #[] ⟨cap⟩] X fun v L' => v = str bs ∧ L' = X' := by
  refine CS.mk (fn := Tryz.f138) rfl rfl rfl rfl ?_
  repeat refine LS.seq ?_
  refine LS.region rfl ?_
  refine OS.pure rfl (fun _ => rfl) rfl ?_
  refine OS.nil ?_
  repeat refine LS.seq ?_
  refine LS.region rfl ?_
  refine OS.fresh rfl (e_new (fun _ => rfl) rfl) (fun _ => rfl) (fun b => ?_)
  refine OS.nil ?_
  repeat refine LS.seq ?_
  refine LS.region rfl ?_
  refine OS.pure rfl (fun _ => rfl) rfl ?_
  refine OS.call noGo rfl (fun _ => rfl) ((hf b).mono ?_)
  rintro v L' hB
  refine ⟨_, rfl, ?_⟩
  refine OS.nil ?_
  repeat refine LS.seq ?_
  refine LS.region rfl ?_
  refine OS.call noGo rfl (fun _ => rfl) ((String_ct hB hn).mono ?_)
  rintro v L' ⟨rfl, rfl⟩
  refine ⟨_, rfl, ?_⟩
  refine OS.pure rfl (fun _ => rfl) rfl ?_
  refine OS.nil ?_
  refine LS.ret ⟨_, fun _ _ => rfl, ?_⟩
  exact ⟨rfl, rfl⟩

abbrev lk (lf : Nat) (cap : List Value) : Value := .func (.func lf) #[] ⟨cap⟩
abbrev TF (rz rl rt lf : Nat) (cap : List Value) (s : List UInt8) (n : Nat) (Y : RL) : RL :=
  (rz, .cells 3 [.int .i64 (n : Nat)]) :: (rl, .cells 241 [lk lf cap]) :: (rt, .cells 9 [str s]) :: Y
theorem BD.mem {b : Nat} {bs : List UInt8} {F L : RL} (h : BD b bs F L) : ∀ p, p ∈ F → p ∈ L := by
  intro p hp
  rcases h with ⟨_, rfl⟩ | ⟨_, r, rfl⟩ <;> simp [hp]
theorem BD.grown {b : Nat} {bs : List UInt8} {c : UInt8} {F L : RL} (h : BD b (bs ++ [c]) F L) : ∃ r, L = (r, .cells 5 (byteCells (bs ++ [c]))) :: (b, bu (ptr b) (.slice (some ⟨r, 0, none⟩) (bs ++ [c]).length openCap)) :: F := by
  rcases h with ⟨h0, _⟩ | ⟨_, r, rfl⟩
  · simp at h0
  · exact ⟨r, rfl⟩
theorem BD.of {b r : Nat} {bs : List UInt8} {c : UInt8} {F : RL} : BD b (bs ++ [c]) F ((r, .cells 5 (byteCells (bs ++ [c]))) :: (b, bu (ptr b) (.slice (some ⟨r, 0, none⟩) (bs ++ [c]).length openCap)) :: F) := .inr ⟨by simp, r, rfl⟩
theorem told1_ct {Y : RL} {b rz rl rt lf : Nat} {cap : List Value} {k : List UInt8 → UInt8 × Nat} (hk : Sane k) {s : List UInt8} (hs : s.length ≤ 10000000)
    (hl : ∀ (t : List UInt8) (L : RL), (∀ p, p ∈ Y → p ∈ L) → t.length ≤ s.length → CS Tryz.prog lf (str t :: cap) L fun v L' => v = two (k t) ∧ L' = L) :
    CS Tryz.prog 139 [ptr b, ptr rl, ptr rt, ptr rz] ((b, bu (.pointer none) (.slice none 0 0)) :: TF rz rl rt lf cap s 0 Y) fun v L' => BD b (tk k s).1 (TF rz rl rt lf cap s (tk k s).2 Y) L' := by
  refine CS.mk (fn := Tryz.f139) rfl rfl rfl rfl ?_
  repeat refine LS.seq ?_
  refine LS.region rfl ?_
  refine OS.read rfl (e_load 2 rfl rfl rfl rfl rfl) rfl ?_
  refine OS.read rfl (e_load 3 rfl rfl rfl rfl rfl) rfl ?_
  refine OS.call noGo rfl (fun _ => rfl) ((hl s _ (fun p hp => by simp [hp]) (Nat.le_refl _)).mono ?_)
  rintro v L' ⟨rfl, rfl⟩
  refine ⟨_, rfl, ?_⟩
  refine OS.pure rfl (fun _ => rfl) rfl ?_
  refine OS.pure rfl (fun _ => rfl) rfl ?_
  refine OS.pure rfl (fun _ => rfl) rfl ?_
  refine OS.pure rfl (fun _ => rfl) rfl ?_
  refine OS.pure rfl (fun _ => rfl) rfl ?_
  refine OS.nil ?_
  repeat refine LS.seq ?_
  refine LS.block ?_
  refine LS.loopJ [0, 1, 2, 3, 5, 6] (fun q a L' => ∃ (acc : List UInt8) (off : Nat), q = s.length - off ∧ off ≤ s.length ∧ acc.length ≤ off ∧ tk k s = (acc ++ (tk k (s.drop off)).1, off + (tk k (s.drop off)).2) ∧ BD b acc (TF rz rl rt lf cap s off Y) L' ∧
    a = [ptr b, ptr rl, ptr rt, ptr rz, .chan none, .int .u8 ((k (s.drop off)).1.toNat : Nat), .int .i64 ((k (s.drop off)).2 : Nat), .chan none, .chan none, .chan none, .chan none, .chan none, .chan none, .chan none, .chan none, .chan none, .chan none, .chan none, .chan none, .chan none, .chan none, .chan none, .chan none, .chan none, .chan none, .chan none, .chan none, .chan none, .chan none]) (n := s.length) rfl ⟨[], 0, rfl, by omega, by simp, by simp, .inl ⟨rfl, rfl⟩, rfl⟩ ?_
  rintro q a L' ⟨acc, off, rfl, ho, ha, ht, hB, rfl⟩
  repeat refine LS.seq ?_
  refine LS.region rfl ?_
  refine OS.pure rfl (fun _ => rfl) rfl ?_
  refine OS.pure rfl (fun _ => rfl) rfl ?_
  refine OS.nil ?_
  repeat refine LS.seq ?_
  refine LS.cond rfl (fun hc => ?_) (fun hc => ?_)
  · have hc : (0 : Int) < (k (s.drop off)).2 := lt_of hc
    have hle := hk (s.drop off)
    rw [List.length_drop] at hle
    refine LS.skip ?_
    repeat refine LS.seq ?_
    refine LS.block ?_
    repeat refine LS.seq ?_
    refine LS.region rfl ?_
    refine OS.pure rfl (fun _ => rfl) rfl ?_
    refine OS.pure rfl (fun _ => rfl) rfl ?_
    refine OS.call noGo rfl (fun _ => rfl) ((WriteByte_ct (k (s.drop off)).1 hB (by omega)).mono ?_)
    rintro v L' ⟨rfl, hB'⟩
    obtain ⟨r, rfl⟩ := hB'.grown
    refine ⟨_, rfl, ?_⟩
    refine OS.nil ?_
    repeat refine LS.seq ?_
    refine LS.region rfl ?_
    refine OS.read rfl (e_load 2 rfl rfl rfl rfl rfl) rfl ?_
    refine OS.pure rfl (fun _ => rfl) rfl ?_
    refine OS.pure rfl (e_add (m := (off : Int)) (n := ((k (s.drop off)).2 : Nat)) rfl rfl rfl (in_i64 (by omega) (by omega))) rfl ?_
    rw [show ((off : Nat) : Int) + ((k (s.drop off)).2 : Nat) = ((off + (k (s.drop off)).2 : Nat) : Int) by omega]
    refine OS.write rfl (e_store 2 rfl rfl rfl rfl rfl rfl rfl rfl) rfl ?_
    refine OS.nil ?_
    have hd : (s.drop (off + (k (s.drop off)).2)).take (s.length - (off + (k (s.drop off)).2)) = s.drop (off + (k (s.drop off)).2) := List.take_of_length_le (by rw [List.length_drop]; omega)
    repeat refine LS.seq ?_
    refine LS.drawn noGo mixed [(0, false), (1, false), (2, false), (3, false), (4, true), (5, false), (6, false), (7, false), (8, false), (9, false)] rfl rfl (by kernel_rfl) ?_
    refine ODS.read rfl rfl (e_load 3 rfl rfl rfl rfl rfl) rfl ?_
    refine ODS.read rfl rfl (e_load 4 rfl rfl rfl rfl rfl) rfl ?_
    refine ODS.read rfl rfl (e_load 2 rfl rfl rfl rfl rfl) rfl ?_
    refine ODS.pure rfl rfl (e_part (s := s) (l := off + (k (s.drop off)).2) (u := s.length) rfl rfl rfl rfl (bound_nat (d := 0)) rfl rfl (by omega) (by omega)) rfl ?_
    rw [hd]
    refine ODS.call rfl rfl (fun _ => rfl) ((hl (s.drop (off + (k (s.drop off)).2)) _ (fun p hp => by simp [hp]) (by rw [List.length_drop]; omega)).mono ?_)
    rintro v L' ⟨rfl, rfl⟩
    refine ⟨_, rfl, Keep.gone rfl (Keep.gone rfl (Keep.gone rfl Keep.nil)), ?_⟩
    refine ODS.pure rfl rfl (fun _ => rfl) rfl ?_
    refine ODS.pure rfl rfl (fun _ => rfl) rfl ?_
    refine ODS.pure rfl rfl (fun _ => rfl) rfl ?_
    refine ODS.pure rfl rfl (fun _ => rfl) rfl ?_
    refine ODS.pure rfl rfl (fun _ => rfl) rfl ?_
    refine ODS.nil ?_
    refine ⟨s.length - (off + (k (s.drop off)).2), by omega, acc ++ [(k (s.drop off)).1], off + (k (s.drop off)).2, rfl, by omega, by simp; omega, ?_, BD.of, rfl⟩
    rw [ht, tk_more hk (s := s.drop off) (by omega), List.drop_drop]
    simp [Nat.add_assoc]
  · have hc : ((k (s.drop off)).2 : Int) ≤ 0 := nlt_of hc
    refine LS.exit ?_
    refine ⟨_, fun _ _ => rfl, ?_⟩
    have h0 : (k (s.drop off)).2 = 0 := by omega
    rw [tk_stop h0] at ht
    rw [ht]
    simpa using hB
theorem told_ct {Y : RL} {lf : Nat} {cap : List Value} {k : List UInt8 → UInt8 × Nat} (hk : Sane k) {s : List UInt8} (hs : s.length ≤ 10000000)
    (hl : ∀ (t : List UInt8) (L : RL), (∀ p, p ∈ Y → p ∈ L) → t.length ≤ s.length → CS Tryz.prog lf (str t :: cap) L fun v L' => v = two (k t) ∧ L' = L) :
    CS Tryz.prog 124 [str s, lk lf cap] Y fun v L' => v = .tuple #[str (tk k s).1, .int .i64 ((tk k s).2 : Nat)] ∧ L' = Y := by
  suffices h : CS Tryz.prog 124 [str s, lk lf cap] Y fun v L' => v = .tuple #[str (tk k s).1, .int .i64 ((tk k s).2 : Nat)] ∧ ∃ x y z, L' = x :: y :: z :: Y by
    exact h.less fun v L' ⟨h1, x, y, z, h2⟩ => ⟨Y, by rw [h2]; exact ⟨[x, y, z], by simpa using (List.perm_append_comm (l₁ := [x, y, z]) (l₂ := Y))⟩, h1, rfl⟩
  have hle := tk_le hk _ s (Nat.le_refl _)
  refine CS.mk (fn := Tryz.f124) rfl rfl rfl rfl ?_
  repeat refine LS.seq ?_
  refine LS.region rfl ?_
  refine OS.fresh rfl (e_new (fun _ => rfl) rfl) (fun _ => rfl) (fun rt => ?_)
  refine OS.fresh rfl (e_new (fun _ => rfl) rfl) (fun _ => rfl) (fun rl => ?_)
  refine OS.pure rfl (fun _ => rfl) rfl ?_
  refine OS.pure rfl (fun _ => rfl) rfl ?_
  refine OS.nil ?_
  repeat refine LS.seq ?_
  refine LS.region rfl ?_
  refine OS.fresh rfl (e_new (fun _ => rfl) rfl) (fun _ => rfl) (fun rz => ?_)
  refine OS.write rfl (e_store 0 rfl rfl rfl rfl rfl rfl rfl rfl) rfl ?_
  refine OS.nil ?_
  repeat refine LS.seq ?_
  refine LS.region rfl ?_
  refine OS.pure rfl (fun _ => rfl) rfl ?_
  refine OS.call noGo rfl (fun _ => rfl) ((build_ct (by omega) (fun b => told1_ct (b := b) (rz := rz) (rl := rl) (rt := rt) hk hs hl)).mono ?_)
  rintro v L' ⟨rfl, rfl⟩
  refine ⟨_, rfl, ?_⟩
  refine OS.pure rfl (fun _ => rfl) rfl ?_
  refine OS.nil ?_
  repeat refine LS.seq ?_
  refine LS.drawn noGo mixed [(0, false), (1, false), (2, false), (3, false)] rfl rfl (by kernel_rfl) ?_
  refine ODS.pure rfl rfl (fun _ => rfl) rfl ?_
  refine ODS.read rfl rfl (e_load 0 rfl rfl rfl rfl rfl) rfl ?_
  refine ODS.pure rfl rfl (fun _ => rfl) rfl ?_
  refine ODS.pure rfl rfl (fun _ => rfl) rfl ?_
  refine ODS.nil ?_
  refine LS.ret ⟨_, fun _ _ => rfl, ?_⟩
  exact ⟨rfl, _, _, _, rfl⟩

/-! ### A word -/
def wordK (s : List UInt8) : List UInt8 × Nat :=
  match s with
  | [] => ([], 0)
  | c :: t => if c = 34 then if (t.drop (tk markK t).2).head? = some 34 then ((tk markK t).1, (tk markK t).2 + 2) else ([], 0) else tk plainK (c :: t)
theorem word_le (s : List UInt8) : (wordK s).2 ≤ s.length ∧ (wordK s).1.length ≤ s.length := by
  cases s with
  | nil => simp [wordK]
  | cons c t =>
    have h1 := tk_le plain_sane _ (c :: t) (Nat.le_refl _)
    have h2 := tk_le mark_sane _ t (Nat.le_refl _)
    simp only [wordK]
    split
    · split
      · rename_i h
        have h3 : (tk markK t).2 < t.length := by
          rcases Nat.lt_or_ge (tk markK t).2 t.length with h' | h'
          · exact h'
          · rw [List.drop_eq_nil_of_le h'] at h; cases h
        simp only [List.length_cons]; omega
      · simp
    · exact h1
theorem wordAt_ct {L : RL} {rm : Nat} (hm : (rm, .map (digE 16) 16) ∈ L) (c : UInt8) (t : List UInt8) (hs : (c :: t).length ≤ 10000000) :
    CS Tryz.prog 113 [str (c :: t), .map (some rm)] L fun v L' => v = .tuple #[str (wordK (c :: t)).1, .int .i64 ((wordK (c :: t)).2 : Nat)] ∧ L' = L := by
  suffices h : CS Tryz.prog 113 [str (c :: t), .map (some rm)] L fun v L' => v = .tuple #[str (wordK (c :: t)).1, .int .i64 ((wordK (c :: t)).2 : Nat)] ∧ ∃ x, L' = x :: L by
    exact h.less fun v L' ⟨h1, x, h2⟩ => ⟨L, by rw [h2]; exact Sub.tail, h1, rfl⟩
  have hlt : t.length ≤ 10000000 := by simp at hs; omega
  refine CS.mk (fn := Tryz.f113) rfl rfl rfl rfl ?_
  repeat refine LS.seq ?_
  refine LS.region rfl ?_
  refine OS.fresh rfl (e_new (fun _ => rfl) rfl) (fun _ => rfl) (fun rc => ?_)
  refine OS.pure rfl (fun _ => rfl) rfl ?_
  refine OS.pure rfl (fun _ => rfl) rfl ?_
  refine OS.nil ?_
  repeat refine LS.seq ?_
  refine LS.region rfl ?_
  refine OS.pure rfl (fun _ => rfl) rfl ?_
  refine OS.pure rfl (e_byte (j := 0) rfl rfl rfl rfl rfl) rfl ?_
  refine OS.pure rfl (fun _ => rfl) rfl ?_
  refine OS.nil ?_
  repeat refine LS.seq ?_
  refine LS.cond rfl (fun hc => ?_) (fun hc => ?_)
  · have hc : c ≠ 34 := by
      rintro rfl
      cases hc
    have hw : wordK (c :: t) = tk plainK (c :: t) := by simp [wordK, hc]
    repeat refine LS.seq ?_
    refine LS.region rfl ?_
    refine OS.pure rfl (fun _ => rfl) rfl ?_
    refine OS.call noGo rfl (fun _ => rfl) ((told_ct (lf := 125) (cap := []) plain_sane hs (fun t L _ _ => plainAt_ct t)).mono ?_)
    rintro v L' ⟨rfl, rfl⟩
    rw [← hw]
    refine ⟨_, rfl, ?_⟩
    refine OS.pure rfl (fun _ => rfl) rfl ?_
    refine OS.pure rfl (fun _ => rfl) rfl ?_
    refine OS.pure rfl (fun _ => rfl) rfl ?_
    refine OS.pure rfl (fun _ => rfl) rfl ?_
    refine OS.nil ?_
    refine LS.ret ⟨_, fun _ _ => rfl, ?_⟩
    exact ⟨rfl, _, rfl⟩
  have hc : c = 34 := is_u8 34 (by simpa using hc) rfl
  subst hc
  have hle := tk_le mark_sane _ t (Nat.le_refl _)
  have hd : ((34 :: t).drop 1).take ((34 :: t).length - 1) = t := by simp
  refine LS.skip ?_
  repeat refine LS.seq ?_
  refine LS.region rfl ?_
  refine OS.pure rfl (fun _ => rfl) rfl ?_
  refine OS.pure rfl (e_part (s := 34 :: t) (l := 1) (u := (34 :: t).length) rfl rfl rfl rfl rfl rfl rfl (Nat.le_refl _) (by simp)) rfl ?_
  rw [hd]
  refine OS.pure rfl (fun _ => rfl) rfl ?_
  refine OS.call noGo rfl (fun _ => rfl) ((told_ct (lf := 126) (cap := [ptr rc]) mark_sane hlt (fun u L hL hu => ?look)).mono ?_)
  case look =>
    have m1 := hL (rc, .cells 198 [.map (some rm)]) (List.mem_cons_self ..)
    have m2 := hL _ (List.mem_cons_of_mem _ hm)
    refine CS.mk (fn := Tryz.f126) rfl rfl rfl rfl ?_
    repeat refine LS.seq ?_
    refine LS.region rfl ?_
    refine OS.pure rfl (fun _ => rfl) rfl ?_
    refine OS.pure rfl (fun _ => rfl) rfl ?_
    refine OS.nil ?_
    repeat refine LS.seq ?_
    refine LS.region rfl ?_
    refine OS.pure rfl (fun _ => rfl) rfl ?_
    refine OS.read rfl (e_loadm m1 rfl rfl rfl (part_one rfl rfl)) rfl ?_
    refine OS.call noGo rfl (fun _ => rfl) ((markAt_ct m2 u (by omega)).mono ?_)
    rintro v L' ⟨rfl, rfl⟩
    refine ⟨_, rfl, ?_⟩
    refine OS.pure rfl (fun _ => rfl) rfl ?_
    refine OS.pure rfl (fun _ => rfl) rfl ?_
    refine OS.pure rfl (fun _ => rfl) rfl ?_
    refine OS.pure rfl (fun _ => rfl) rfl ?_
    refine OS.nil ?_
    refine LS.ret ⟨_, fun _ _ => rfl, ?_⟩
    exact ⟨rfl, rfl⟩
  rintro v L' ⟨rfl, rfl⟩
  refine ⟨_, rfl, ?_⟩
  refine OS.pure rfl (fun _ => rfl) rfl ?_
  refine OS.pure rfl (fun _ => rfl) rfl ?_
  refine OS.pure rfl (fun _ => rfl) rfl ?_
  refine OS.pure rfl (fun _ => rfl) rfl ?_
  refine OS.pure rfl (fun _ => rfl) rfl ?_
  refine OS.nil ?_
  have hd2 : ((34 :: t).drop (1 + (tk markK t).2)).take ((34 :: t).length - (1 + (tk markK t).2)) = t.drop (tk markK t).2 := by
    rw [List.take_of_length_le (by simp), Nat.add_comm 1, List.drop_succ_cons]
  repeat refine LS.seq ?_
  refine LS.region rfl ?_
  refine OS.pure rfl (fun _ => rfl) rfl ?_
  refine OS.pure rfl (fun _ => rfl) rfl ?_
  refine OS.pure rfl (e_add (m := 1) (n := ((tk markK t).2 : Nat)) rfl rfl rfl (in_i64 (by omega) (by omega))) rfl ?_
  rw [show (1 : Int) + ((tk markK t).2 : Nat) = ((1 + (tk markK t).2 : Nat) : Int) by omega]
  refine OS.pure rfl (e_part (s := 34 :: t) (l := 1 + (tk markK t).2) (u := (34 :: t).length) rfl rfl rfl rfl (bound_nat (d := 0)) rfl rfl (Nat.le_refl _) (by simp; omega)) rfl ?_
  rw [hd2]
  refine OS.call noGo rfl (fun _ => rfl) ((HasPrefixQ_ct (t.drop (tk markK t).2) (by rw [List.length_drop]; omega)).mono ?_)
  rintro v L' ⟨rfl, rfl⟩
  refine ⟨_, rfl, ?_⟩
  refine OS.pure rfl (fun _ => rfl) rfl ?_
  refine OS.nil ?_
  repeat refine LS.seq ?_
  refine LS.cond rfl (fun hq => ?_) (fun hq => ?_)
  · have hq : ¬ (t.drop (tk markK t).2).head? = some 34 := by simpa using hq
    repeat refine LS.seq ?_
    refine LS.region rfl ?_
    refine OS.pure rfl (fun _ => rfl) rfl ?_
    refine OS.pure rfl (fun _ => rfl) rfl ?_
    refine OS.nil ?_
    refine LS.ret ⟨_, fun _ _ => rfl, ?_⟩
    refine ⟨?_, _, rfl⟩
    have : wordK (34 :: t) = ([], 0) := by simp only [wordK, if_true, if_neg hq]
    rw [this]; rfl
  have hq : (t.drop (tk markK t).2).head? = some 34 := by simpa using hq
  refine LS.skip ?_
  repeat refine LS.seq ?_
  refine LS.region rfl ?_
  refine OS.pure rfl (fun _ => rfl) rfl ?_
  refine OS.pure rfl (fun _ => rfl) rfl ?_
  refine OS.pure rfl (e_add (m := ((tk markK t).2 : Nat)) (n := 2) rfl rfl rfl (in_i64 (by omega) (by omega))) rfl ?_
  refine OS.pure rfl (fun _ => rfl) rfl ?_
  refine OS.pure rfl (fun _ => rfl) rfl ?_
  refine OS.nil ?_
  refine LS.ret ⟨_, fun _ _ => rfl, ?_⟩
  refine ⟨?_, _, rfl⟩
  have : wordK (34 :: t) = ((tk markK t).1, (tk markK t).2 + 2) := by simp only [wordK, if_true, if_pos hq]
  rw [this]; rfl
end Go.Proofs.YtmdcfnnoeimakaaGreatDoor
