/- Layer 3: the document's disk (the writes that were done), its calls; what the program's come to, all cases. -/
import Derived.Test.YthfgjedcmhllfaaAk
import Derived.Test.YthfgjedcmhllfaaDc
import Derived.Test.YthfgjedcmhllfaaDh
namespace Go.Proofs.Ythfgjedcmhllfaa
open Go.Am
set_option linter.unusedVariables false
set_option maxRecDepth 20000

/-- What a write comes to: its answer, and the disk behind it. -/
def wrD (s : Dk) (i : Int) (bs : List UInt8) : Int × Dk :=
  if s.dead = true then (20, s) else if ¬ (0 ≤ i ∧ i < s.n ∧ bs.length = 256) then (1, s) else if s.cut = true ∧ s.left = 0 then (20, ⟨s.n, s.D, s.wr, true, 0, true⟩) else (0, ⟨s.n, put s.D i.toNat bs, s.wr + 1, s.cut, if s.cut then s.left - 1 else s.left, s.dead⟩)
theorem Write_all {F : RL} {rd rb : Nat} {s : Dk} (hs : s.ok) (i : Int) {b : Value} {m : Nat} {bs : List UInt8} (hb : SV 1 F b m (byteCells bs)) : CS Try.prog 14 [ptr rd, .int .i64 i, b] (dk rd rb s F) fun v L' => v = .int .i64 (wrD s i bs).1 ∧ L' = dk rd rb (wrD s i bs).2 F := by
  have hl : bs.length = m := by have := hb.len; rw [byteCells_len] at this; omega
  unfold wrD
  by_cases hd : s.dead = true
  · rw [if_pos hd]; exact Write_dead hd _ _
  have hd' : s.dead = false := by simpa using hd
  rw [if_neg hd]
  by_cases hi : 0 ≤ i ∧ i < s.n
  · obtain ⟨j, rfl⟩ := Int.eq_ofNat_of_zero_le hi.1
    by_cases hm : m = 256
    · rw [if_neg (by rw [hl]; omega)]
      subst hm
      by_cases hc : s.cut = true ∧ s.left = 0
      · rw [if_pos hc]; exact Write_cut hd' hc.1 hc.2 j (by omega) hb
      · rw [if_neg hc]
        exact Write_ct hs hd' (fun h => by by_cases h0 : s.left = 0; exact absurd ⟨h, h0⟩ hc; omega) j (by omega) hb
    · rw [if_pos (by rw [hl]; omega)]; exact Write_len hd' j (by omega) hb hm
  · rw [if_pos (by omega)]; exact Write_out hd' i hi b
theorem wrD_ok {s : Dk} {i : Int} {bs : List UInt8} (hs : s.ok) (hw : s.wr < 1000000) : (wrD s i bs).2.ok := by
  obtain ⟨h1, h2, h3, h4, h5⟩ := hs
  unfold wrD
  split
  · exact ⟨h1, h2, h3, h4, h5⟩
  · split
    · exact ⟨h1, h2, h3, h4, h5⟩
    · rename_i hq
      have hq : 0 ≤ i ∧ i < s.n ∧ bs.length = 256 := Classical.not_not.1 hq
      split
      · exact ⟨h1, h2, h3, h4, Nat.zero_le _⟩
      · refine ⟨put_len h1 (show i.toNat < s.n by have := hq.1; have := hq.2.1; omega) hq.2.2, h2, h3, by show s.wr + 1 ≤ _; omega, ?_⟩
        show (if s.cut = true then s.left - 1 else s.left) ≤ _
        split <;> omega
theorem wrD_wr {s : Dk} {i : Int} {bs : List UInt8} : (wrD s i bs).2.wr ≤ s.wr + 1 := by
  unfold wrD; split
  · exact Nat.le_succ _
  · split
    · exact Nat.le_succ _
    · split
      · exact Nat.le_succ _
      · exact Nat.le_refl _
theorem wrD_n {s : Dk} {i : Int} {bs : List UInt8} : (wrD s i bs).2.n = s.n := by
  unfold wrD; split
  · rfl
  · split
    · rfl
    · split <;> rfl

/-- What a cut comes to. -/
def cutD (s : Dk) (m : Int) : Int × Dk :=
  if s.dead = true then (20, s) else if m < 0 then (1, s) else (0, ⟨s.n, s.D, s.wr, true, m.toNat, s.dead⟩)
theorem Cut_all {F : RL} {rd rb : Nat} {s : Dk} (m : Int) (hm : m ≤ 9223372036854775807) : CS Try.prog 16 [ptr rd, .int .i64 m] (dk rd rb s F) fun v L' => v = .int .i64 (cutD s m).1 ∧ L' = dk rd rb (cutD s m).2 F := by
  unfold cutD
  by_cases hd : s.dead = true
  · rw [if_pos hd]; exact Cut_dead hd _
  have hd' : s.dead = false := by simpa using hd
  rw [if_neg hd]
  by_cases h0 : m < 0
  · rw [if_pos h0]; exact Cut_neg hd' m h0
  · rw [if_neg h0]
    obtain ⟨j, rfl⟩ := Int.eq_ofNat_of_zero_le (show 0 ≤ m by omega)
    exact Cut_ct hd' j (by omega)
theorem cutD_ok {s : Dk} {m : Int} (hs : s.ok) (hm : m ≤ 9223372036854775807) : (cutD s m).2.ok := by
  obtain ⟨h1, h2, h3, h4, h5⟩ := hs
  unfold cutD
  split
  · exact ⟨h1, h2, h3, h4, h5⟩
  · split
    · exact ⟨h1, h2, h3, h4, h5⟩
    · exact ⟨h1, h2, h3, h4, by show m.toNat ≤ _; omega⟩
theorem cutD_wr {s : Dk} {m : Int} : (cutD s m).2.wr = s.wr ∧ (cutD s m).2.n = s.n ∧ (cutD s m).2.D = s.D := by
  unfold cutD; split
  · exact ⟨rfl, rfl, rfl⟩
  · split <;> exact ⟨rfl, rfl, rfl⟩

/-- The document's disk: a cut, as a number; the writes; its row. -/
def cutZ (s : Dk) : Int := if s.cut = true then (s.left : Nat) else -1
abbrev Ws := List (Nat × List UInt8)
def wcells (ws : Ws) : List Value := ws.flatMap fun w => [.int .i64 (w.1 : Nat), .string ⟨⟨w.2⟩⟩]
theorem wcells_len (ws : Ws) : (wcells ws).length = ws.length * 2 := by
  induction ws with
  | nil => rfl
  | cons w r ih => unfold wcells at *; rw [List.flatMap_cons, List.length_append, ih]; simp; omega
theorem wcells_append (ws us : Ws) : wcells (ws ++ us) = wcells ws ++ wcells us := by simp [wcells]
theorem wcells_at : ∀ (ws : Ws) (i j : Nat) (w : Nat × List UInt8), ws[i]? = some w → j < 2 → (wcells ws)[i * 2 + j]? = ([.int .i64 (w.1 : Nat), .string ⟨⟨w.2⟩⟩] : List Value)[j]? := by
  intro ws
  induction ws with
  | nil => intro i j w h; simp at h
  | cons b r ih =>
    intro i j w h hj
    unfold wcells at *
    rw [List.flatMap_cons]
    cases i with
    | zero =>
      simp only [List.getElem?_cons_zero, Option.some.injEq] at h
      subst h
      rw [Nat.zero_mul, Nat.zero_add, List.getElem?_append_left (by simp; omega)]
    | succ i =>
      rw [List.getElem?_cons_succ] at h
      rw [List.getElem?_append_right (by simp; omega), ← ih i j w h hj]
      congr 1
      simp
      omega
abbrev rfRow (lv : Value) (s : Dk) (old : Nat) : ARow := .cells 48 [.int .i64 (s.n : Nat), .int .i64 (old : Nat), .int .i64 (cutZ s), lv, .bool s.dead]
abbrev WL (lv : Value) (ws : Ws) (X : RL) : Prop := LV 87 2 lv ws.length (wcells ws) X
theorem WL_append {ws : Ws} {j r : Nat} {bs : List UInt8} : WL (.slice (some ⟨r, 0, none⟩) (ws.length + 1) openCap) (ws ++ [(j, bs)]) [(r, .cells 87 (wcells ws ++ [.int .i64 (j : Nat), .string ⟨⟨bs⟩⟩]))] := by
  have e : wcells (ws ++ [(j, bs)]) = wcells ws ++ [.int .i64 (j : Nat), .string ⟨⟨bs⟩⟩] := wcells_append _ _
  unfold WL
  rw [e, List.length_append]
  exact LV.row (by simp) (by rw [List.length_append, wcells_len]; simp; omega)
/-- The last of the writes to a block. -/
def lastW (ws : Ws) (i : Nat) : List UInt8 := ws.foldl (fun b w => if w.1 = i then w.2 else b) (List.replicate 256 0)
theorem lastW_append {ws : Ws} {w : Nat × List UInt8} {i : Nat} : lastW (ws ++ [w]) i = if w.1 = i then w.2 else lastW ws i := by simp [lastW]

theorem rNew_ct {L : RL} (n : Nat) (h0 : 512 ≤ n) (h1 : n ≤ 32768) (D : List UInt8) : CS Try.prog 20 [.int .i64 (n : Nat)] L fun v L' => ∃ rx, v = .tuple #[ptr rx, .int .i64 0] ∧ L' = (rx, rfRow (.slice none 0 0) ⟨n, D, 0, false, 0, false⟩ 0) :: L := by
  have hb1 : (!ileB 512 (n : Int)) = false := by rw [ileB_eq]; simp; omega
  have hb2 : (!ileB (n : Int) 32768) = false := by rw [ileB_eq]; simp; omega
  refine CS.mk (fn := Try.f20) rfl rfl rfl rfl ?_
  repeat refine LS.seq ?_
  refine LS.region rfl ?_
  refine OS.pure rfl (fun _ => rfl) rfl ?_
  refine OS.pure rfl (fun _ => rfl) rfl ?_
  refine OS.nil ?_
  repeat refine LS.seq ?_
  refine LS.region rfl ?_
  refine OS.pure rfl (fun _ => rfl) rfl ?_
  refine OS.pure rfl (e_is (fun _ => rfl) (congrArg Value.bool hb1)) rfl ?_
  refine OS.pure rfl (fun _ => rfl) rfl ?_
  refine OS.pure rfl (fun _ => rfl) rfl ?_
  refine OS.pure rfl (e_is (fun _ => rfl) (congrArg Value.bool hb2)) rfl ?_
  refine OS.pure rfl (fun _ => rfl) rfl ?_
  refine OS.nil ?_
  refine LS.cond rfl (fun hc => by cases hc) (fun hc => ?_)
  refine LS.skip ?_
  repeat refine LS.seq ?_
  refine LS.region rfl ?_
  refine OS.pure rfl (fun _ => rfl) rfl ?_
  refine OS.pure rfl (fun _ => rfl) rfl ?_
  refine OS.fresh rfl (e_new (fun _ => rfl) rfl) (fun _ => rfl) (fun rx => ?_)
  refine OS.pure rfl (fun _ => rfl) rfl ?_
  refine OS.pure rfl (fun _ => rfl) rfl ?_
  refine OS.nil ?_
  refine LS.ret ⟨_, fun _ _ => rfl, ?_⟩
  exact ⟨rx, rfl, rfl⟩
theorem rNew_small {L : RL} (n : Int) (h : n < 512) : CS Try.prog 20 [.int .i64 n] L fun v L' => v = .tuple #[.pointer none, .int .i64 1] ∧ L' = L := by
  have hb1 : (!ileB 512 n) = true := by rw [ileB_eq]; simp; omega
  refine CS.mk (fn := Try.f20) rfl rfl rfl rfl ?_
  repeat refine LS.seq ?_
  refine LS.region rfl ?_
  refine OS.pure rfl (fun _ => rfl) rfl ?_
  refine OS.pure rfl (fun _ => rfl) rfl ?_
  refine OS.nil ?_
  repeat refine LS.seq ?_
  refine LS.region rfl ?_
  refine OS.pure rfl (fun _ => rfl) rfl ?_
  refine OS.pure rfl (e_is (fun _ => rfl) (congrArg Value.bool hb1)) rfl ?_
  refine OS.pure rfl (fun _ => rfl) rfl ?_
  refine OS.skip rfl rfl ?_
  refine OS.skip rfl rfl ?_
  refine OS.pure rfl (fun _ => rfl) rfl ?_
  refine OS.nil ?_
  refine LS.cond rfl (fun hc => ?_) (fun hc => by cases hc)
  repeat refine LS.seq ?_
  refine LS.region rfl ?_
  refine OS.pure rfl (fun _ => rfl) rfl ?_
  refine OS.pure rfl (fun _ => rfl) rfl ?_
  refine OS.nil ?_
  refine LS.ret ⟨_, fun _ _ => rfl, ?_⟩
  exact ⟨rfl, rfl⟩
theorem rNew_large {L : RL} (n : Int) (h : 32768 < n) : CS Try.prog 20 [.int .i64 n] L fun v L' => v = .tuple #[.pointer none, .int .i64 1] ∧ L' = L := by
  have hb1 : (!ileB 512 n) = false := by rw [ileB_eq]; simp; omega
  have hb2 : (!ileB n 32768) = true := by rw [ileB_eq]; simp; omega
  refine CS.mk (fn := Try.f20) rfl rfl rfl rfl ?_
  repeat refine LS.seq ?_
  refine LS.region rfl ?_
  refine OS.pure rfl (fun _ => rfl) rfl ?_
  refine OS.pure rfl (fun _ => rfl) rfl ?_
  refine OS.nil ?_
  repeat refine LS.seq ?_
  refine LS.region rfl ?_
  refine OS.pure rfl (fun _ => rfl) rfl ?_
  refine OS.pure rfl (e_is (fun _ => rfl) (congrArg Value.bool hb1)) rfl ?_
  refine OS.pure rfl (fun _ => rfl) rfl ?_
  refine OS.pure rfl (fun _ => rfl) rfl ?_
  refine OS.pure rfl (e_is (fun _ => rfl) (congrArg Value.bool hb2)) rfl ?_
  refine OS.pure rfl (fun _ => rfl) rfl ?_
  refine OS.nil ?_
  refine LS.cond rfl (fun hc => ?_) (fun hc => by cases hc)
  repeat refine LS.seq ?_
  refine LS.region rfl ?_
  refine OS.pure rfl (fun _ => rfl) rfl ?_
  refine OS.pure rfl (fun _ => rfl) rfl ?_
  refine OS.nil ?_
  refine LS.ret ⟨_, fun _ _ => rfl, ?_⟩
  exact ⟨rfl, rfl⟩

/-- The writes behind a write. -/
def wsD (s : Dk) (i : Int) (bs : List UInt8) (ws : Ws) : Ws := if (wrD s i bs).1 = 0 then ws ++ [(i.toNat, bs)] else ws
theorem rWrite_all {F X : RL} {rx old : Nat} {lv : Value} {s : Dk} {ws : Ws} (hX : WL lv ws X) (hw : ws.length ≤ 1000000) (i : Int) (hi64 : i ≤ 9223372036854775807) {b : Value} {m : Nat} {bs : List UInt8} (hb : SV 1 F b m (byteCells bs)) (hc5 : s.left ≤ 9223372036854775807) :
    CS Try.prog 22 [ptr rx, .int .i64 i, b] ((rx, rfRow lv s old) :: (X ++ F)) fun v L' => ∃ lv' X', v = .int .i64 (wrD s i bs).1 ∧ WL lv' (wsD s i bs ws) X' ∧ L' = (rx, rfRow lv' (wrD s i bs).2 old) :: (X' ++ F) := by
  have hl : bs.length = m := by have := hb.len; rw [byteCells_len] at this; omega
  have hbL : ∀ {p : Nat × ARow}, SV 1 (p :: (X ++ F)) b m (byteCells bs) := fun {p} => hb.mono (fun q hq => List.mem_cons_of_mem _ (List.mem_append_right _ hq))
  unfold wsD
  unfold wrD
  obtain ⟨n, D, wr, cut, left, dead⟩ := s
  simp only at hc5
  cases dead with
  | true =>
    simp only [if_true]
    rw [if_neg (show ¬ ((20 : Int) = 0) by decide)]
    refine CS.mk (fn := Try.f22) rfl rfl rfl rfl ?_
    repeat refine LS.seq ?_
    refine LS.region rfl ?_
    refine OS.pure rfl (fun _ => rfl) rfl ?_
    refine OS.nil ?_
    repeat refine LS.seq ?_
    refine LS.region rfl ?_
    refine OS.pure rfl (fun _ => rfl) rfl ?_
    refine OS.pure rfl (fun _ => rfl) rfl ?_
    refine OS.pure rfl (fun _ => rfl) rfl ?_
    refine OS.read rfl (e_load 0 rfl rfl rfl rfl rfl) rfl ?_
    refine OS.nil ?_
    refine LS.cond rfl (fun hc => ?_) (fun hc => by cases hc)
    repeat refine LS.seq ?_
    refine LS.region rfl ?_
    refine OS.pure rfl (fun _ => rfl) rfl ?_
    refine OS.nil ?_
    refine LS.ret ⟨_, fun _ _ => rfl, ?_⟩
    exact ⟨lv, X, rfl, hX, rfl⟩
  | false =>
    simp only [Bool.false_eq_true, if_false]
    by_cases h0 : 0 ≤ i
    case neg =>
      have hb1 : (!ileB 0 i) = true := by rw [ileB_eq]; simp; omega
      rw [if_pos (by omega), if_neg (show ¬ ((1 : Int) = 0) by decide)]
      refine CS.mk (fn := Try.f22) rfl rfl rfl rfl ?_
      repeat refine LS.seq ?_
      refine LS.region rfl ?_
      refine OS.pure rfl (fun _ => rfl) rfl ?_
      refine OS.nil ?_
      repeat refine LS.seq ?_
      refine LS.region rfl ?_
      refine OS.pure rfl (fun _ => rfl) rfl ?_
      refine OS.pure rfl (fun _ => rfl) rfl ?_
      refine OS.pure rfl (fun _ => rfl) rfl ?_
      refine OS.read rfl (e_load 0 rfl rfl rfl rfl rfl) rfl ?_
      refine OS.nil ?_
      refine LS.cond rfl (fun hc => by cases hc) (fun hc => ?_)
      refine LS.skip ?_
      repeat refine LS.seq ?_
      refine LS.region rfl ?_
      refine OS.pure rfl (fun _ => rfl) rfl ?_
      refine OS.pure rfl (e_is (fun _ => rfl) (congrArg Value.bool hb1)) rfl ?_
      refine OS.pure rfl (fun _ => rfl) rfl ?_
      refine OS.skip rfl rfl ?_
      refine OS.skip rfl rfl ?_
      refine OS.skip rfl rfl ?_
      refine OS.skip rfl rfl ?_
      refine OS.skip rfl rfl ?_
      refine OS.skip rfl rfl ?_
      refine OS.pure rfl (fun _ => rfl) rfl ?_
      refine OS.pure rfl (fun _ => rfl) rfl ?_
      refine OS.skip rfl rfl ?_
      refine OS.skip rfl rfl ?_
      refine OS.skip rfl rfl ?_
      refine OS.pure rfl (fun _ => rfl) rfl ?_
      refine OS.nil ?_
      refine LS.cond rfl (fun hc => ?_) (fun hc => by cases hc)
      repeat refine LS.seq ?_
      refine LS.region rfl ?_
      refine OS.pure rfl (fun _ => rfl) rfl ?_
      refine OS.nil ?_
      refine LS.ret ⟨_, fun _ _ => rfl, ?_⟩
      exact ⟨lv, X, rfl, hX, rfl⟩
    have hb1 : (!ileB 0 i) = false := by rw [ileB_eq]; simp; omega
    by_cases hn : i < n
    case neg =>
      have hb2 : ileB n i = true := ileB_iff.2 (by omega)
      rw [if_pos (by omega), if_neg (show ¬ ((1 : Int) = 0) by decide)]
      refine CS.mk (fn := Try.f22) rfl rfl rfl rfl ?_
      repeat refine LS.seq ?_
      refine LS.region rfl ?_
      refine OS.pure rfl (fun _ => rfl) rfl ?_
      refine OS.nil ?_
      repeat refine LS.seq ?_
      refine LS.region rfl ?_
      refine OS.pure rfl (fun _ => rfl) rfl ?_
      refine OS.pure rfl (fun _ => rfl) rfl ?_
      refine OS.pure rfl (fun _ => rfl) rfl ?_
      refine OS.read rfl (e_load 0 rfl rfl rfl rfl rfl) rfl ?_
      refine OS.nil ?_
      refine LS.cond rfl (fun hc => by cases hc) (fun hc => ?_)
      refine LS.skip ?_
      repeat refine LS.seq ?_
      refine LS.region rfl ?_
      refine OS.pure rfl (fun _ => rfl) rfl ?_
      refine OS.pure rfl (e_is (fun _ => rfl) (congrArg Value.bool hb1)) rfl ?_
      refine OS.pure rfl (fun _ => rfl) rfl ?_
      refine OS.pure rfl (fun _ => rfl) rfl ?_
      refine OS.pure rfl (fun _ => rfl) rfl ?_
      refine OS.pure rfl (fun _ => rfl) rfl ?_
      refine OS.pure rfl (fun _ => rfl) rfl ?_
      refine OS.read rfl (e_load 0 rfl rfl rfl rfl rfl) rfl ?_
      refine OS.pure rfl (e_is (fun _ => rfl) (congrArg Value.bool hb2)) rfl ?_
      refine OS.pure rfl (fun _ => rfl) rfl ?_
      refine OS.pure rfl (fun _ => rfl) rfl ?_
      refine OS.skip rfl rfl ?_
      refine OS.skip rfl rfl ?_
      refine OS.skip rfl rfl ?_
      refine OS.pure rfl (fun _ => rfl) rfl ?_
      refine OS.nil ?_
      refine LS.cond rfl (fun hc => ?_) (fun hc => by cases hc)
      repeat refine LS.seq ?_
      refine LS.region rfl ?_
      refine OS.pure rfl (fun _ => rfl) rfl ?_
      refine OS.nil ?_
      refine LS.ret ⟨_, fun _ _ => rfl, ?_⟩
      exact ⟨lv, X, rfl, hX, rfl⟩
    have hb2 : ileB n i = false := by rw [ileB_eq]; simp; omega
    by_cases hm : m = 256
    case neg =>
      have hb3 : (!ieqB ((m : Nat) : Int) 256) = true := by rw [ieqB_eq]; simp; omega
      rw [if_pos (by omega), if_neg (show ¬ ((1 : Int) = 0) by decide)]
      refine CS.mk (fn := Try.f22) rfl rfl rfl rfl ?_
      repeat refine LS.seq ?_
      refine LS.region rfl ?_
      refine OS.pure rfl (fun _ => rfl) rfl ?_
      refine OS.nil ?_
      repeat refine LS.seq ?_
      refine LS.region rfl ?_
      refine OS.pure rfl (fun _ => rfl) rfl ?_
      refine OS.pure rfl (fun _ => rfl) rfl ?_
      refine OS.pure rfl (fun _ => rfl) rfl ?_
      refine OS.read rfl (e_load 0 rfl rfl rfl rfl rfl) rfl ?_
      refine OS.nil ?_
      refine LS.cond rfl (fun hc => by cases hc) (fun hc => ?_)
      refine LS.skip ?_
      repeat refine LS.seq ?_
      refine LS.region rfl ?_
      refine OS.pure rfl (fun _ => rfl) rfl ?_
      refine OS.pure rfl (e_is (fun _ => rfl) (congrArg Value.bool hb1)) rfl ?_
      refine OS.pure rfl (fun _ => rfl) rfl ?_
      refine OS.pure rfl (fun _ => rfl) rfl ?_
      refine OS.pure rfl (fun _ => rfl) rfl ?_
      refine OS.pure rfl (fun _ => rfl) rfl ?_
      refine OS.pure rfl (fun _ => rfl) rfl ?_
      refine OS.read rfl (e_load 0 rfl rfl rfl rfl rfl) rfl ?_
      refine OS.pure rfl (e_is (fun _ => rfl) (congrArg Value.bool hb2)) rfl ?_
      refine OS.pure rfl (fun _ => rfl) rfl ?_
      refine OS.pure rfl (fun _ => rfl) rfl ?_
      refine OS.pure rfl (fun _ => rfl) rfl ?_
      refine OS.pure rfl (e_len hb rfl rfl rfl rfl rfl) rfl ?_
      refine OS.pure rfl (e_is (fun _ => rfl) (congrArg Value.bool hb3)) rfl ?_
      refine OS.pure rfl (fun _ => rfl) rfl ?_
      refine OS.nil ?_
      refine LS.cond rfl (fun hc => ?_) (fun hc => by cases hc)
      repeat refine LS.seq ?_
      refine LS.region rfl ?_
      refine OS.pure rfl (fun _ => rfl) rfl ?_
      refine OS.nil ?_
      refine LS.ret ⟨_, fun _ _ => rfl, ?_⟩
      exact ⟨lv, X, rfl, hX, rfl⟩
    subst hm
    rw [if_neg (by omega)]
    obtain ⟨j, rfl⟩ := Int.eq_ofNat_of_zero_le h0
    refine CS.mk (fn := Try.f22) rfl rfl rfl rfl ?_
    repeat refine LS.seq ?_
    refine LS.region rfl ?_
    refine OS.pure rfl (fun _ => rfl) rfl ?_
    refine OS.nil ?_
    repeat refine LS.seq ?_
    refine LS.region rfl ?_
    refine OS.pure rfl (fun _ => rfl) rfl ?_
    refine OS.pure rfl (fun _ => rfl) rfl ?_
    refine OS.pure rfl (fun _ => rfl) rfl ?_
    refine OS.read rfl (e_load 0 rfl rfl rfl rfl rfl) rfl ?_
    refine OS.nil ?_
    refine LS.cond rfl (fun hc => by cases hc) (fun hc => ?_)
    refine LS.skip ?_
    repeat refine LS.seq ?_
    refine LS.region rfl ?_
    refine OS.pure rfl (fun _ => rfl) rfl ?_
    refine OS.pure rfl (e_is (fun _ => rfl) (congrArg Value.bool hb1)) rfl ?_
    refine OS.pure rfl (fun _ => rfl) rfl ?_
    refine OS.pure rfl (fun _ => rfl) rfl ?_
    refine OS.pure rfl (fun _ => rfl) rfl ?_
    refine OS.pure rfl (fun _ => rfl) rfl ?_
    refine OS.pure rfl (fun _ => rfl) rfl ?_
    refine OS.read rfl (e_load 0 rfl rfl rfl rfl rfl) rfl ?_
    refine OS.pure rfl (e_is (fun _ => rfl) (congrArg Value.bool hb2)) rfl ?_
    refine OS.pure rfl (fun _ => rfl) rfl ?_
    refine OS.pure rfl (fun _ => rfl) rfl ?_
    refine OS.pure rfl (fun _ => rfl) rfl ?_
    refine OS.pure rfl (e_len hb rfl rfl rfl rfl rfl) rfl ?_
    refine OS.pure rfl (fun _ => rfl) rfl ?_
    refine OS.pure rfl (fun _ => rfl) rfl ?_
    refine OS.nil ?_
    refine LS.cond rfl (fun hc => by cases hc) (fun hc => ?_)
    refine LS.skip ?_
    by_cases hc : cut = true ∧ left = 0
    case pos =>
      obtain ⟨rfl, rfl⟩ := hc
      rw [if_pos ⟨rfl, rfl⟩, if_neg (show ¬ ((20 : Int) = 0) by decide)]
      repeat refine LS.seq ?_
      refine LS.region rfl ?_
      refine OS.pure rfl (fun _ => rfl) rfl ?_
      refine OS.pure rfl (fun _ => rfl) rfl ?_
      refine OS.pure rfl (fun _ => rfl) rfl ?_
      refine OS.read rfl (e_load 0 rfl rfl rfl rfl rfl) rfl ?_
      refine OS.pure rfl (fun _ => rfl) rfl ?_
      refine OS.nil ?_
      refine LS.cond rfl (fun hc => ?_) (fun hc => by cases hc)
      repeat refine LS.seq ?_
      refine LS.region rfl ?_
      refine OS.pure rfl (fun _ => rfl) rfl ?_
      refine OS.pure rfl (fun _ => rfl) rfl ?_
      refine OS.pure rfl (fun _ => rfl) rfl ?_
      refine OS.write rfl (e_store 0 rfl rfl rfl rfl rfl rfl rfl rfl) rfl ?_
      refine OS.nil ?_
      repeat refine LS.seq ?_
      refine LS.region rfl ?_
      refine OS.pure rfl (fun _ => rfl) rfl ?_
      refine OS.nil ?_
      refine LS.ret ⟨_, fun _ _ => rfl, ?_⟩
      exact ⟨lv, X, rfl, hX, rfl⟩
    rw [if_neg hc, if_pos rfl]
    have hq0 : ieqB (cutZ ⟨n, D, wr, cut, left, false⟩) 0 = false := by
      rw [ieqB_eq]; unfold cutZ
      cases cut
      · rfl
      · have : left ≠ 0 := fun h => hc ⟨rfl, h⟩
        simp; omega
    repeat refine LS.seq ?_
    refine LS.region rfl ?_
    refine OS.pure rfl (fun _ => rfl) rfl ?_
    refine OS.pure rfl (fun _ => rfl) rfl ?_
    refine OS.pure rfl (fun _ => rfl) rfl ?_
    refine OS.read rfl (e_load 0 rfl rfl rfl rfl rfl) rfl ?_
    refine OS.pure rfl (e_is (fun _ => rfl) (congrArg Value.bool hq0)) rfl ?_
    refine OS.nil ?_
    refine LS.cond rfl (fun hc => by cases hc) (fun hc => ?_)
    refine LS.skip ?_
    refine LS.seq ?_
    refine LS.mid [0, 1, 2, 6] (fun a' L' => a' = [ptr rx, .int .i64 (j : Nat), b, .chan none, .chan none, .chan none, .int .i64 0, .chan none, .chan none, .chan none, .chan none, .chan none, .chan none, .chan none, .chan none, .chan none, .chan none, .chan none, .chan none, .chan none, .chan none, .chan none, .chan none, .chan none, .chan none, .chan none, .chan none, .chan none, .chan none, .chan none, .chan none, .chan none, .chan none, .chan none, .chan none, .chan none, .chan none, .chan none, .chan none, .chan none, .chan none, .chan none, .chan none, .chan none, .chan none, .chan none, .chan none, .chan none, .chan none, .chan none, .chan none, .chan none, .chan none, .chan none, .chan none, .chan none, .chan none, .chan none, .chan none] ∧ L' = (rx, rfRow lv ⟨n, D, wr, cut, if cut then left - 1 else left, false⟩ old) :: (X ++ F)) ?_ ?_
    · cases cut with
      | false =>
        repeat refine LS.seq ?_
        refine LS.region rfl ?_
        refine OS.pure rfl (fun _ => rfl) rfl ?_
        refine OS.pure rfl (fun _ => rfl) rfl ?_
        refine OS.pure rfl (fun _ => rfl) rfl ?_
        refine OS.read rfl (e_load 0 rfl rfl rfl rfl rfl) rfl ?_
        refine OS.pure rfl (fun _ => rfl) rfl ?_
        refine OS.nil ?_
        refine LS.cond rfl (fun hc => by cases hc) (fun hc => ?_)
        refine LS.skip ?_
        exact ⟨rfl, rfl⟩
      | true =>
        have hl0 : left ≠ 0 := fun h => hc ⟨rfl, h⟩
        have hq1 : (!ileB (cutZ ⟨n, D, wr, true, left, false⟩) 0) = true := by rw [ileB_eq]; unfold cutZ; simp; omega
        repeat refine LS.seq ?_
        refine LS.region rfl ?_
        refine OS.pure rfl (fun _ => rfl) rfl ?_
        refine OS.pure rfl (fun _ => rfl) rfl ?_
        refine OS.pure rfl (fun _ => rfl) rfl ?_
        refine OS.read rfl (e_load 0 rfl rfl rfl rfl rfl) rfl ?_
        refine OS.pure rfl (e_is (fun _ => rfl) (congrArg Value.bool hq1)) rfl ?_
        refine OS.nil ?_
        refine LS.cond rfl (fun hc => ?_) (fun hc => by cases hc)
        repeat refine LS.seq ?_
        refine LS.region rfl ?_
        refine OS.pure rfl (fun _ => rfl) rfl ?_
        refine OS.pure rfl (fun _ => rfl) rfl ?_
        refine OS.pure rfl (fun _ => rfl) rfl ?_
        refine OS.read rfl (e_load 0 rfl rfl rfl rfl rfl) rfl ?_
        refine OS.pure rfl (e_is (e_sub (k := .i64) (m := ((left : Nat) : Int)) (n := 1) rfl rfl rfl (in_i64 (by omega) (by omega))) (congrArg (Value.int .i64) (show ((left : Nat) : Int) - 1 = ((left - 1 : Nat) : Int) by omega))) rfl ?_
        refine OS.pure rfl (fun _ => rfl) rfl ?_
        refine OS.pure rfl (fun _ => rfl) rfl ?_
        refine OS.write rfl (e_store 0 rfl rfl rfl rfl rfl rfl rfl rfl) rfl ?_
        refine OS.nil ?_
        exact ⟨rfl, rfl⟩
    rintro a' L' ⟨rfl, rfl⟩
    have hbR : ∀ {p : Nat × ARow}, SV 1 (p :: (X ++ F)) b 256 (byteCells bs) := fun {p} => hbL
    repeat refine LS.seq ?_
    refine LS.drawn noGo mixed [(0, false), (1, false), (2, false), (3, false), (4, false), (5, false), (6, false), (7, false), (8, false), (9, true), (10, true), (11, false), (12, false), (13, true)] rfl rfl (by kernel_rfl) ?_
    refine ODS.pure rfl rfl (fun _ => rfl) rfl ?_
    refine ODS.pure rfl rfl (fun _ => rfl) rfl ?_
    refine ODS.pure rfl rfl (fun _ => rfl) rfl ?_
    refine ODS.pure rfl rfl (fun _ => rfl) rfl ?_
    refine ODS.read rfl rfl (e_load 0 rfl rfl rfl rfl rfl) rfl ?_
    refine ODS.pure rfl rfl (fun _ => rfl) rfl ?_
    refine ODS.pure rfl rfl (fun _ => rfl) rfl ?_
    refine ODS.read rfl rfl (e_textSV (n := 256) (bs := bs) hbR rfl rfl rfl rfl rfl) rfl ?_
    refine ODS.pure rfl rfl (fun _ => rfl) rfl ?_
    refine ODS.fresh rfl rfl (e_new (fun _ => rfl) rfl) (fun _ => rfl) (fun rz => Keep.gone rfl (Keep.cons rfl (e_load 1 rfl rfl rfl rfl rfl) Keep.nil)) (fun rz => ?_)
    refine ODS.fresh rfl rfl (e_appendLV [(rz, .cells 87 [.int .i64 (j : Nat), .string ⟨⟨bs⟩⟩]), (rx, rfRow lv ⟨n, D, wr, cut, if cut then left - 1 else left, false⟩ old)] (m := 1) (sz := 2) (bts := 24) hX (SV.row (sz := 2) (n := 1) (List.mem_cons_self ..) rfl) (by omega) rfl rfl rfl rfl (by omega) (by omega)) (fun _ => rfl) (fun _ => Keep.gone rfl (Keep.gone rfl Keep.nil)) (fun rn => ?_)
    refine ODS.pure rfl rfl (fun _ => rfl) rfl ?_
    refine ODS.pure rfl rfl (fun _ => rfl) rfl ?_
    refine ODS.write rfl rfl (e_store 2 (n := 1) rfl rfl rfl rfl rfl rfl rfl rfl) rfl (Keep.gone rfl (Keep.gone rfl Keep.nil)) ?_
    refine ODS.nil ?_
    repeat refine LS.seq ?_
    refine LS.region rfl ?_
    refine OS.sub (Sub.drop 1 rfl) ?_
    refine OS.sub (Sub.pulls [1] rfl) ?_
    refine OS.pure rfl (fun _ => rfl) rfl ?_
    refine OS.nil ?_
    refine LS.ret ⟨_, fun _ _ => rfl, ?_⟩
    exact ⟨_, [(rn, _)], rfl, WL_append, rfl⟩

end Go.Proofs.Ythfgjedcmhllfaa
