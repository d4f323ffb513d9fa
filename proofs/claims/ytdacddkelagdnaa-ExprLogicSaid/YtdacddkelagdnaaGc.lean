/- Layer 10: the document's Check; which bytes a piece stands for, its size; rows. -/
import Derived.Test.YtdacddkelagdnaaGb
import Derived.Test.YtdacddkelagdnaaYl
namespace Go.Proofs.Ytdacddkelagdnaa
open Go.Am
set_option linter.unusedVariables false
set_option maxRecDepth 20000
attribute [local irreducible] OS LSr ODS CS

theorem refCheck_ct {L : RL} (p : List UInt8) : CS Try.prog 40 [str p] L fun v L' => v = .int .i64 (chk p) ∧ L' = L := by
  refine CS.mk (fn := Try.f40) rfl rfl rfl rfl ?_
  by_cases h6 : 64 < p.length
  · have hb : (!ileB (p.length : Int) 64) = true := by rw [ileB_eq]; simp; omega
    refine yG ?_
    exact ⟨by unfold chk; rw [if_pos h6]; rfl, rfl⟩
  have hb : (!ileB (p.length : Int) 64) = false := by rw [ileB_eq]; simp; omega
  by_cases hne : p = []
  · subst hne
    refine yG ?_
    exact ⟨rfl, rfl⟩
  have hb2 : bytesEq p [] = false := by rw [beq_bytes]; simpa using hne
  refine yG ?_
  refine LS.loopJ [0, 3] (fun q a L' => ∃ k : Nat, q = p.length - k ∧ k ≤ p.length ∧ (p.take k).all shown = true ∧ L' = L ∧ a = [str p, .chan none, .chan none, .int .i64 (k : Nat), .chan none, .chan none, .chan none, .chan none, .chan none, .chan none, .chan none, .chan none, .chan none, .chan none, .chan none, .chan none, .chan none, .chan none, .chan none, .chan none, .chan none, .chan none, .chan none, .chan none, .chan none]) (n := p.length) rfl ⟨0, rfl, by omega, by simp, rfl, rfl⟩ ?_
  rintro q a L' ⟨k, rfl, hk, hall, rfl, rfl⟩
  refine yG ?_
  repeat refine LS.seq ?_
  refine LS.cond rfl (fun hc => ?_) (fun hc => ?_)
  · have hc := lt_of hc
    have hkl : k < p.length := by omega
    obtain ⟨c, hcb⟩ : ∃ c, p[k]? = some c := ⟨_, List.getElem?_eq_getElem hkl⟩
    refine LS.skip ?_
    rcases tf (!ileB 33 (c.toNat : Nat)) with h1 | h1
    · refine yG ?_
      exact ⟨by rw [chk_bad (by omega) hcb (hid_of (.inl h1))]; rfl, rfl⟩
    · rcases tf (!ileB (c.toNat : Nat) 126) with h2 | h2
      · refine yG ?_
        exact ⟨by rw [chk_bad (by omega) hcb (hid_of (.inr h2))]; rfl, rfl⟩
      · refine yG ?_
        exact ⟨p.length - (k + 1), by omega, k + 1, rfl, by omega, by rw [all_step hcb, hall, shown_of h1 h2]; rfl, rfl, rfl⟩
  · have hc := nlt_of hc
    obtain rfl : k = p.length := by omega
    refine LS.exit ?_
    refine yG ?_
    exact ⟨by rw [chk_good (by omega) hne hall]; rfl, rfl⟩

/-! ### Pieces -/
theorem HasPrefix2_ct {L : RL} (s : List UInt8) (hs : s.length ≤ 1000000) : CS Try.prog 53 [str s, str [42, 42]] L fun v L' => v = .bool (decide ([42, 42] <+: s)) ∧ L' = L := by
  have key : CS Try.prog 56 [str s, str [42, 42]] L fun v L' => v = .bool (decide ([42, 42] <+: s)) ∧ L' = L := by
    refine CS.mk (fn := Try.f56) rfl rfl rfl rfl ?_
    by_cases h2 : 2 ≤ s.length
    · have hb : ileB (([42, 42] : List UInt8).length : Nat) (s.length : Nat) = true := ileB_iff.2 (by simp; omega)
      have hb2 : bytesEq ((s.drop 0).take (2 - 0)) [42, 42] = decide ([42, 42] <+: s) := by
        rw [beq_bytes]
        match s, h2 with
        | a :: b :: r, _ =>
          rw [Bool.eq_iff_iff, decide_eq_true_iff, decide_eq_true_iff]
          constructor
          · intro h; simp at h; rw [h.1, h.2]; exact ⟨r, rfl⟩
          · rintro ⟨t, ht⟩; simp at ht; simp [ht.1.symm, ht.2.1.symm]
      refine yG ?_
      refine OS.pure rfl (e_part (s := s) (l := 0) (u := 2) rfl rfl rfl rfl rfl rfl rfl (by omega) (by omega)) rfl ?_
      refine yG ?_
      exact ⟨rfl, rfl⟩
    · have hb : ileB (([42, 42] : List UInt8).length : Nat) (s.length : Nat) = false := by rw [ileB_eq]; simp; omega
      have hd : decide ([42, 42] <+: s) = false := by
        rw [decide_eq_false_iff_not]; intro h; have := h.length_le; simp at this; omega
      refine yG ?_
      exact ⟨by rw [hd]; rfl, rfl⟩
  refine CS.mk (fn := Try.f53) rfl rfl rfl rfl ?_
  refine yG ?_
  refine OS.call noGo rfl (fun _ => rfl) ((key).mono ?_)
  rintro v L' ⟨rfl, rfl⟩
  refine yG ?_
  exact ⟨rfl, rfl⟩
theorem pieceSize_ct {L : RL} (s : List UInt8) (hs : s.length ≤ 1000000) : CS Try.prog 46 [str s] L fun v L' => v = .int .i64 (pSize s : Nat) ∧ L' = L := by
  refine CS.mk (fn := Try.f46) rfl rfl rfl rfl ?_
  refine yG ?_
  refine OS.call noGo rfl (fun _ => rfl) ((HasPrefix2_ct s hs).mono ?_)
  rintro v L' ⟨rfl, rfl⟩
  by_cases h : [42, 42] <+: s
  · rw [decide_eq_true h]
    refine yG ?_
    exact ⟨by unfold pSize; rw [if_pos h]; rfl, rfl⟩
  · rw [decide_eq_false h]
    refine yG ?_
    exact ⟨by unfold pSize; rw [if_neg h]; rfl, rfl⟩
/-- Of one byte, or two stars. -/
def IsPc (w : List UInt8) : Prop := w = [42, 42] ∨ ∃ c, w = [c]
theorem isPc_take {w : List UInt8} (h : w ≠ []) : IsPc (w.take (pSize w)) := by
  by_cases h2 : [42, 42] <+: w
  · obtain ⟨t, rfl⟩ := h2
    left
    show List.take (pSize (42 :: 42 :: t)) _ = _
    rw [pSize_two]; rfl
  · rw [pSize_one h2]
    cases w with
    | nil => exact absurd rfl h
    | cons c r => exact .inr ⟨c, rfl⟩
theorem fits_ct {L : RL} {w : List UInt8} (hw : IsPc w) (c : UInt8) : CS Try.prog 54 [str w, .int .u8 (c.toNat : Nat)] L fun v L' => v = .bool ((pcOf w).2 c) ∧ L' = L := by
  refine CS.mk (fn := Try.f54) rfl rfl rfl rfl ?_
  rcases hw with rfl | ⟨d, rfl⟩
  · refine yG ?_
    exact ⟨rfl, rfl⟩
  by_cases h1 : d = 42
  · subst h1
    refine yG ?_
    exact ⟨by show Value.bool (!ieqB (c.toNat : Nat) 47) = _; rw [cmp_u8 (k := 47) c 47 rfl]; rfl, rfl⟩
  by_cases h2 : d = 63
  · subst h2
    refine yG ?_
    exact ⟨by show Value.bool (!ieqB (c.toNat : Nat) 47) = _; rw [cmp_u8 (k := 47) c 47 rfl]; rfl, rfl⟩
  have b0 : bytesEq [d] [42, 42] = false := by rw [beq_bytes]; simp
  have b1 : bytesEq [d] [42] = false := by rw [beq_bytes]; simpa using h1
  have b2 : bytesEq [d] [63] = false := by rw [beq_bytes]; simpa using h2
  have hd : ([d] : List UInt8)[0]? = some d := rfl
  refine yG ?_
  exact ⟨by show Value.bool (ieqB (c.toNat : Nat) (d.toNat : Nat)) = _; rw [eq_u8]; simp [pcOf, h1, h2], rfl⟩

/-! ### Rows -/
def rw' (n : Nat) (f : Nat → Bool) : List Value := (List.range n).map fun k => .bool (f k)
theorem rw_len {n : Nat} {f : Nat → Bool} : (rw' n f).length = n := by simp [rw']
theorem rw_at {n k : Nat} {f : Nat → Bool} (h : k < n) : (rw' n f)[0 + k * 1]? = some (.bool (f k)) := by simp [rw', h]
theorem rw_at' {n k : Nat} {f : Nat → Bool} (h : k < n) : (rw' n f)[k]? = some (.bool (f k)) := by simp [rw', h]
theorem rw_set {n k : Nat} {f : Nat → Bool} (b : Bool) : (rw' n f).set k (.bool b) = rw' n (fun j => if j = k then b else f j) := by
  apply List.ext_getElem?
  intro j
  rw [List.getElem?_set]
  simp only [rw', List.length_map, List.length_range, List.getElem?_map]
  by_cases hj : j < n
  · rw [List.getElem?_range hj]
    by_cases e : k = j
    · subst e; simp [hj]
    · rw [if_neg e]
      have : ¬ j = k := fun h => e h.symm
      simp [this]
  · have : (List.range n)[j]? = none := by simp; omega
    rw [this]
    by_cases e : k = j
    · subst e; simp [hj]
    · rw [if_neg e]; simp
theorem rw_congr {n : Nat} {f g : Nat → Bool} (h : ∀ k, k < n → f k = g k) : rw' n f = rw' n g := by
  apply List.map_congr_left
  intro k hk
  rw [h k (List.mem_range.1 hk)]
theorem rw_lay {n k : Nat} {f : Nat → Bool} (b : Bool) (h : k < n) : lay (rw' n f) (0 + k * 1) [.bool b] = some (rw' n (fun j => if j = k then b else f j)) := by
  rw [show 0 + k * 1 = k by omega, lay_one (by rw [rw_len]; exact h), rw_set]
theorem rw_false (n : Nat) : List.replicate n (.bool false) = rw' n fun _ => false := by
  apply List.ext_getElem?
  intro j
  by_cases hj : j < n
  · simp [rw', hj]
  · simp [rw', hj]
abbrev rowSl (r n : Nat) : Value := .slice (some ⟨r, 0, none⟩) n n
abbrev rowRow (n : Nat) (f : Nat → Bool) : ARow := .cells 4 (rw' n f)
theorem repL_bool {n : Nat} : repL [Value.bool false] n = rw' n fun _ => false := by rw [repL_one, rw_false]
theorem newRow_ct {L : RL} (s : List UInt8) (hs : s.length ≤ 1000000) : CS Try.prog 37 [str s] L fun v L' => ∃ r, v = rowSl r (s.length + 1) ∧ L' = (r, rowRow (s.length + 1) fun k => decide (k = 0)) :: L := by
  refine CS.mk (fn := Try.f37) rfl rfl rfl rfl ?_
  refine yG ?_
  refine OS.fresh rfl (e_make (l := s.length + 1) (c := s.length + 1) (e := 4) (sz := 1) (bts := 1) (zs := [.bool false]) rfl rfl rfl rfl (by omega) (by omega) (by omega)) (fun _ => rfl) (fun r => ?_)
  rw [repL_bool]
  refine yG ?_
  refine OS.pure rfl (e_index (j := 0) (sz := 1) rfl rfl rfl rfl rfl (by omega)) rfl ?_
  refine OS.write rfl (e_store 0 (n := 1) rfl rfl rfl rfl rfl rfl (rw_lay true (by omega)) rfl) rfl ?_
  refine yG ?_
  congr 2

/-! ### One piece more -/
def spr (ok : UInt8 → Bool) (s : List UInt8) (f : Nat → Bool) : Nat → Bool
  | 0 => f 0
  | k + 1 => f (k + 1) || (spr ok s f k && match s[k]? with | some c => ok c | none => false)
def stp (ok : UInt8 → Bool) (s : List UInt8) (f : Nat → Bool) : Nat → Bool
  | 0 => false
  | k + 1 => f k && match s[k]? with | some c => ok c | none => false
theorem spread_ct {F : RL} {r : Nat} {f : Nat → Bool} {w s : List UInt8} (hw : IsPc w) (hs : s.length ≤ 1000000) : CS Try.prog 47 [rowSl r (s.length + 1), str w, str s] ((r, rowRow (s.length + 1) f) :: F) fun v L' => L' = (r, rowRow (s.length + 1) (spr (pcOf w).2 s f)) :: F := by
  refine CS.mk (fn := Try.f47) rfl rfl rfl rfl ?_
  refine yG ?_
  refine LS.loopJ [0, 1, 2, 8, 9] (fun q a L' => ∃ k : Nat, q = s.length - k ∧ k ≤ s.length ∧ L' = (r, rowRow (s.length + 1) fun j => if j ≤ k then spr (pcOf w).2 s f j else f j) :: F ∧ a = [rowSl r (s.length + 1), str w, str s, .chan none, .chan none, .chan none, .chan none, .chan none, .int .i64 (s.length : Nat), .int .i64 (k : Nat), .chan none, .chan none, .chan none, .chan none, .chan none, .chan none, .chan none, .chan none, .chan none, .chan none, .chan none, .chan none, .chan none, .chan none, .chan none, .chan none, .chan none, .chan none, .chan none, .chan none, .chan none, .chan none, .chan none, .chan none, .chan none]) (n := s.length) rfl ⟨0, rfl, by omega, ?_, rfl⟩ ?_
  · congr 2
    unfold rowRow
    congr 1
    exact rw_congr fun k _ => by by_cases h : k = 0 <;> simp [h, spr]
  rintro q a L' ⟨k, rfl, hk, rfl, rfl⟩
  refine yG ?_
  repeat refine LS.seq ?_
  refine LS.cond rfl (fun hc => ?_) (fun hc => ?_)
  · have hc := lt_of hc
    have hkl : k < s.length := by omega
    obtain ⟨c, hcb⟩ : ∃ c, s[k]? = some c := ⟨_, List.getElem?_eq_getElem hkl⟩
    refine LS.skip ?_
    have hg0 : (fun j => if j ≤ k then spr (pcOf w).2 s f j else f j) (k + 1) = f (k + 1) := if_neg (by omega)
    have hg1 : (fun j => if j ≤ k then spr (pcOf w).2 s f j else f j) k = spr (pcOf w).2 s f k := if_pos (Nat.le_refl k)
    have hnx : (spr (pcOf w).2 s f (k + 1)) = (f (k + 1) || (spr (pcOf w).2 s f k && (pcOf w).2 c)) := by rw [spr, hcb]
    have hend : ∀ b, b = spr (pcOf w).2 s f (k + 1) → rw' (s.length + 1) (fun j => if j = k + 1 then b else if j ≤ k then spr (pcOf w).2 s f j else f j) = rw' (s.length + 1) (fun j => if j ≤ k + 1 then spr (pcOf w).2 s f j else f j) := by
      rintro b rfl
      refine rw_congr fun j _ => ?_
      by_cases h : j = k + 1
      · subst h; simp
      · rw [if_neg h]
        by_cases h2 : j ≤ k
        · rw [if_pos h2, if_pos (by omega)]
        · rw [if_neg h2, if_neg (by omega)]
    refine yG ?_
    refine OS.pure rfl (e_index (j := k + 1) (sz := 1) rfl rfl rfl rfl rfl (by omega)) rfl ?_
    rcases tf (f (k + 1)) with h1 | h1
    · refine OS.read rfl (e_is' (e_load 0 rfl rfl rfl rfl (part_one rfl (rw_at (by omega)))) (congrArg Value.bool (hg0.trans h1))) rfl ?_
      refine yG ?_
      refine OS.pure rfl (e_index (j := k + 1) (sz := 1) rfl rfl rfl rfl rfl (by omega)) rfl ?_
      refine OS.write rfl (e_store 0 (n := 1) rfl rfl rfl rfl rfl rfl (rw_lay true (by omega)) rfl) rfl ?_
      refine yG ?_
      exact ⟨s.length - (k + 1), by omega, k + 1, rfl, by omega, by rw [hend _ (by rw [hnx, h1]; rfl)], rfl⟩
    · refine OS.read rfl (e_is' (e_load 0 rfl rfl rfl rfl (part_one rfl (rw_at (by omega)))) (congrArg Value.bool (hg0.trans h1))) rfl ?_
      refine yG ?_
      refine OS.pure rfl (e_index (j := k) (sz := 1) rfl rfl rfl rfl rfl (by omega)) rfl ?_
      rcases tf (spr (pcOf w).2 s f k) with h2 | h2
      · refine OS.read rfl (e_is' (e_load 0 rfl rfl rfl rfl (part_one rfl (rw_at (by omega)))) (congrArg Value.bool (hg1.trans h2))) rfl ?_
        refine yG ?_
        refine OS.call noGo rfl (fun _ => rfl) ((fits_ct hw c).mono ?_)
        rintro v L' ⟨rfl, rfl⟩
        refine yG ?_
        refine OS.pure rfl (e_index (j := k + 1) (sz := 1) rfl rfl rfl rfl rfl (by omega)) rfl ?_
        refine OS.write rfl (e_store 0 (n := 1) rfl rfl rfl rfl rfl rfl (rw_lay ((pcOf w).2 c) (by omega)) rfl) rfl ?_
        refine yG ?_
        exact ⟨s.length - (k + 1), by omega, k + 1, rfl, by omega, by rw [hend _ (by rw [hnx, h1, h2]; rfl)], rfl⟩
      · refine OS.read rfl (e_is' (e_load 0 rfl rfl rfl rfl (part_one rfl (rw_at (by omega)))) (congrArg Value.bool (hg1.trans h2))) rfl ?_
        refine yG ?_
        refine OS.pure rfl (e_index (j := k + 1) (sz := 1) rfl rfl rfl rfl rfl (by omega)) rfl ?_
        refine OS.write rfl (e_store 0 (n := 1) rfl rfl rfl rfl rfl rfl (rw_lay false (by omega)) rfl) rfl ?_
        refine yG ?_
        exact ⟨s.length - (k + 1), by omega, k + 1, rfl, by omega, by rw [hend _ (by rw [hnx, h1, h2]; rfl)], rfl⟩
  · have hc := nlt_of hc
    obtain rfl : k = s.length := by omega
    refine LS.exit ?_
    refine ⟨_, fun _ _ => rfl, ?_⟩
    congr 2
    unfold rowRow
    congr 1
    exact rw_congr fun k h => if_pos (by omega)
theorem rw_take {n k : Nat} {f : Nat → Bool} (h : k ≤ n) : (rw' n f).take k = rw' k f := by
  unfold rw'
  rw [← List.map_take, List.take_range, Nat.min_eq_left h]
theorem rw_shift {n : Nat} {f : Nat → Bool} : cut (rw' (n + 1) f) 0 (n * 1) = some (rw' n f) ∧ lay (rw' (n + 1) f) (0 + 1) (rw' n f) = some (rw' (n + 1) fun j => if j = 0 then f 0 else f (j - 1)) := by
  constructor
  · rw [cut_of (by rw [rw_len]; omega), List.drop_zero, Nat.mul_one, rw_take (by omega)]
  · rw [lay_of (by rw [rw_len, rw_len]; omega)]
    congr 1
    have h1 : (rw' (n + 1) f).drop (0 + 1 + (rw' n f).length) = [] := by
      apply List.drop_eq_nil_of_le; rw [rw_len, rw_len]; omega
    rw [h1, List.append_nil]
    unfold rw'
    rw [show n + 1 = 1 + n by omega, List.range_add, List.map_append, List.map_append]
    congr 1
    simp
theorem rw_one (n : Nat) (f : Nat → Bool) : allOne (rw' n f) = true := by
  unfold rw'
  generalize List.range n = l
  induction l with
  | nil => rfl
  | cons a l ih => simp only [List.map_cons, allOne]; exact ih
/-- The row, copied one place on. -/
theorem e_copyRow {P : Program} {o : Oper} {a : Slots} {F : RL} {c : Call} {st e e' : TypeId} {r n N cp : Nat} {f : Nat → Bool} (hn : N = n) (ho : o.op = .call c) (hc : c.callee = .builtin .copy) (ha : evs a c.args.toList = some [.slice (some ⟨r, 0 + 1, none⟩) N cp, .slice (some ⟨r, 0, none⟩) (n + 1) (n + 1)])
    (ht : c.argTypes[0]? = some st) (hu : P.underlying st = some (.slice e)) (hz : sizeB P e = some 1) :
    ∀ h, Has h ((r, .cells e' (rw' (n + 1) f)) :: F) → ∃ h₁, opB P a o h = some (.val (.int .i64 (n : Nat)) h₁) ∧ Has h₁ ((r, .cells e' (rw' (n + 1) fun j => if j = 0 then f 0 else f (j - 1))) :: F) := by
  subst hn
  rcases Nat.eq_zero_or_pos N with h0 | h0
  · subst h0
    intro h H
    have hmin : Nat.min (0 + 1) 0 = 0 := rfl
    have hl1 : lenB (.slice (some ⟨r, 0, none⟩) (0 + 1) (0 + 1)) = some (0 + 1) := rfl
    have hnt : notText (.slice (some ⟨r, 0, none⟩) (0 + 1) (0 + 1)) = true := rfl
    have hf : firstB 1 0 (.slice (some ⟨r, 0, none⟩) (0 + 1) (0 + 1)) h = some [] := rfl
    have hone : allOne [] = true := rfl
    have hb : Nat.beq 0 0 = true := rfl
    refine ⟨h, ?_, ?_⟩
    · simp only [opB, ho, ha, callOpB, hc, copyB, ht, hu, hz, hl1, hmin, hf, hone, hnt, hb, Bool.true_or, Bool.and_self, ret2, goInt]
    · exact H
  · obtain ⟨hcut, hlay⟩ := rw_shift (n := N) (f := f)
    exact e_copyG 0 (k := N) ho hc ha ht hu hz (Nat.min_eq_right (by omega)) h0 (List.mem_cons_self ..) rfl hcut (rw_one N f) rfl hlay rfl
theorem step_ct {F : RL} {r : Nat} {f : Nat → Bool} {w s : List UInt8} (hw : IsPc w) (hs : s.length ≤ 1000000) : CS Try.prog 48 [rowSl r (s.length + 1), str w, str s] ((r, rowRow (s.length + 1) f) :: F) fun v L' => L' = (r, rowRow (s.length + 1) (stp (pcOf w).2 s f)) :: F := by
  refine CS.mk (fn := Try.f48) rfl rfl rfl rfl ?_
  refine yG ?_
  refine OS.pure rfl (e_sliceC1 (l := 1) rfl rfl rfl rfl rfl (Nat.le_refl _) (by omega) (by unfold openCap; omega)) rfl ?_
  refine yG ?_
  refine OS.write rfl (e_copyRow (n := s.length) (Nat.add_sub_cancel ..) rfl rfl rfl rfl rfl rfl) rfl ?_
  refine yG ?_
  refine OS.pure rfl (e_index (j := 0) (sz := 1) rfl rfl rfl rfl rfl (by omega)) rfl ?_
  refine OS.write rfl (e_store 0 (n := 1) rfl rfl rfl rfl rfl rfl (rw_lay false (by omega)) rfl) rfl ?_
  refine yG ?_
  refine LS.loopJ [0, 1, 2, 14, 15] (fun q a L' => ∃ k : Nat, q = s.length - k ∧ k ≤ s.length ∧ L' = (r, rowRow (s.length + 1) fun j => if j ≤ k then stp (pcOf w).2 s f j else f (j - 1)) :: F ∧ a = [rowSl r (s.length + 1), str w, str s, .chan none, .chan none, .chan none, .chan none, .chan none, .chan none, .chan none, .chan none, .chan none, .chan none, .chan none, .int .i64 (s.length : Nat), .int .i64 (k : Nat), .chan none, .chan none, .chan none, .chan none, .chan none, .chan none, .chan none, .chan none, .chan none, .chan none, .chan none, .chan none, .chan none, .chan none, .chan none, .chan none, .chan none, .chan none, .chan none]) (n := s.length) rfl ⟨0, rfl, by omega, ?_, rfl⟩ ?_
  · congr 2
    unfold rowRow
    congr 1
    refine rw_congr fun k _ => ?_
    by_cases h : k = 0
    · subst h; rfl
    · simp [h]
  rintro q a L' ⟨k, rfl, hk, rfl, rfl⟩
  refine yG ?_
  repeat refine LS.seq ?_
  refine LS.cond rfl (fun hc => ?_) (fun hc => ?_)
  · have hc := lt_of hc
    have hkl : k < s.length := by omega
    obtain ⟨c, hcb⟩ : ∃ c, s[k]? = some c := ⟨_, List.getElem?_eq_getElem hkl⟩
    refine LS.skip ?_
    have hg0 : (fun j => if j ≤ k then stp (pcOf w).2 s f j else f (j - 1)) (k + 1) = f k := if_neg (by omega)
    have hnx : (stp (pcOf w).2 s f (k + 1)) = (f k && (pcOf w).2 c) := by rw [stp, hcb]
    have hend : ∀ b, b = stp (pcOf w).2 s f (k + 1) → rw' (s.length + 1) (fun j => if j = k + 1 then b else if j ≤ k then stp (pcOf w).2 s f j else f (j - 1)) = rw' (s.length + 1) (fun j => if j ≤ k + 1 then stp (pcOf w).2 s f j else f (j - 1)) := by
      rintro b rfl
      refine rw_congr fun j _ => ?_
      by_cases h : j = k + 1
      · subst h; simp
      · rw [if_neg h]
        by_cases h2 : j ≤ k
        · rw [if_pos h2, if_pos (by omega)]
        · rw [if_neg h2, if_neg (by omega)]
    refine yG ?_
    refine OS.pure rfl (e_index (j := k + 1) (sz := 1) rfl rfl rfl rfl rfl (by omega)) rfl ?_
    rcases tf (f k) with h1 | h1
    · refine OS.read rfl (e_is' (e_load 0 rfl rfl rfl rfl (part_one rfl (rw_at (by omega)))) (congrArg Value.bool (hg0.trans h1))) rfl ?_
      refine yG ?_
      refine OS.call noGo rfl (fun _ => rfl) ((fits_ct hw c).mono ?_)
      rintro v L' ⟨rfl, rfl⟩
      refine yG ?_
      refine OS.pure rfl (e_index (j := k + 1) (sz := 1) rfl rfl rfl rfl rfl (by omega)) rfl ?_
      refine OS.write rfl (e_store 0 (n := 1) rfl rfl rfl rfl rfl rfl (rw_lay ((pcOf w).2 c) (by omega)) rfl) rfl ?_
      refine yG ?_
      exact ⟨s.length - (k + 1), by omega, k + 1, rfl, by omega, by rw [hend _ (by rw [hnx, h1]; rfl)], rfl⟩
    · refine OS.read rfl (e_is' (e_load 0 rfl rfl rfl rfl (part_one rfl (rw_at (by omega)))) (congrArg Value.bool (hg0.trans h1))) rfl ?_
      refine yG ?_
      refine OS.pure rfl (e_index (j := k + 1) (sz := 1) rfl rfl rfl rfl rfl (by omega)) rfl ?_
      refine OS.write rfl (e_store 0 (n := 1) rfl rfl rfl rfl rfl rfl (rw_lay false (by omega)) rfl) rfl ?_
      refine yG ?_
      exact ⟨s.length - (k + 1), by omega, k + 1, rfl, by omega, by rw [hend _ (by rw [hnx, h1]; rfl)], rfl⟩
  · have hc := nlt_of hc
    obtain rfl : k = s.length := by omega
    refine LS.exit ?_
    refine ⟨_, fun _ _ => rfl, ?_⟩
    congr 2
    unfold rowRow
    congr 1
    exact rw_congr fun k h => if_pos (by omega)
theorem goOn_ct {F : RL} {r : Nat} {P : List Pc} {w s : List UInt8} (hw : IsPc w) (hs : s.length ≤ 1000000) : CS Try.prog 39 [rowSl r (s.length + 1), str w, str s] ((r, rowRow (s.length + 1) fun k => ms P (s.take k)) :: F) fun v L' => L' = (r, rowRow (s.length + 1) fun k => ms (P ++ [pcOf w]) (s.take k)) :: F := by
  have hmany : (pcOf w).1 = true → rowRow (s.length + 1) (spr (pcOf w).2 s fun k => ms P (s.take k)) = rowRow (s.length + 1) fun k => ms (P ++ [pcOf w]) (s.take k) := by
    intro hm
    unfold rowRow
    congr 1
    have hp : pcOf w = (true, (pcOf w).2) := by rw [← hm]
    refine rw_congr fun k hk => ?_
    induction k with
    | zero => rw [spr, hp, ms_many_zero]
    | succ k ih =>
      obtain ⟨c, hcb⟩ : ∃ c, s[k]? = some c := ⟨_, List.getElem?_eq_getElem (by omega)⟩
      rw [spr, ih (by omega), hcb]
      conv => rhs; rw [hp, ms_many_snoc hcb, ← hp]
  have hone : (pcOf w).1 = false → rowRow (s.length + 1) (stp (pcOf w).2 s fun k => ms P (s.take k)) = rowRow (s.length + 1) fun k => ms (P ++ [pcOf w]) (s.take k) := by
    intro hm
    unfold rowRow
    congr 1
    have hp : pcOf w = (false, (pcOf w).2) := by rw [← hm]
    refine rw_congr fun k hk => ?_
    cases k with
    | zero => rw [stp, hp, ms_snoc_zero]
    | succ k =>
      obtain ⟨c, hcb⟩ : ∃ c, s[k]? = some c := ⟨_, List.getElem?_eq_getElem (by omega)⟩
      rw [stp, hcb]
      conv => rhs; rw [hp, ms_snoc hcb]
  refine CS.mk (fn := Try.f39) rfl rfl rfl rfl ?_
  rcases hw with rfl | ⟨d, rfl⟩
  · refine yG ?_
    refine OS.call noGo rfl (fun _ => rfl) ((spread_ct (.inl rfl) hs).mono ?_)
    rintro v L' rfl
    refine yG ?_
    refine ⟨_, fun _ _ => rfl, ?_⟩
    rw [hmany rfl]
  by_cases h1 : d = 42
  · subst h1
    refine yG ?_
    refine OS.call noGo rfl (fun _ => rfl) ((spread_ct (.inr ⟨_, rfl⟩) hs).mono ?_)
    rintro v L' rfl
    refine yG ?_
    refine ⟨_, fun _ _ => rfl, ?_⟩
    rw [hmany rfl]
  have b0 : bytesEq [d] [42, 42] = false := by rw [beq_bytes]; simp
  have b1 : bytesEq [d] [42] = false := by rw [beq_bytes]; simpa using h1
  refine yG ?_
  refine OS.call noGo rfl (fun _ => rfl) ((step_ct (.inr ⟨_, rfl⟩) hs).mono ?_)
  rintro v L' rfl
  refine yG ?_
  refine ⟨_, fun _ _ => rfl, ?_⟩
  rw [hone (by unfold pcOf; rw [if_neg (by simp), if_neg (by simpa using h1)]; split <;> rfl)]
end Go.Proofs.Ytdacddkelagdnaa
