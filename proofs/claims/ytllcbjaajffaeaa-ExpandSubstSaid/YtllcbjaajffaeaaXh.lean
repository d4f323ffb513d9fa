/- Layer 13: as the document goes: letters, marks, what is put in. -/
import Derived.Test.YtllcbjaajffaeaaXg
namespace Go.Am
section
variable {P : Program} {a : Slots} {o : Oper} {L : RL}
theorem e_appendNil_txt {c : Call} {e : TypeId} {bts : Nat} (ho : o.op = .call c) (hT : appT P c = some (e, 1, bts)) (ha : evs a c.args.toList = some [.slice none 0 0, .string ⟨⟨[]⟩⟩]) :
    ∀ h, Has h L → opB P a o h = some (.val (.slice none 0 0) h) := by
  intro h H
  have hn1 : lenB (.string ⟨⟨[]⟩⟩) = some 0 := rfl
  have hf : firstB 1 0 (.string ⟨⟨[]⟩⟩) h = some [] := by have := first_text (sz := 1) (bs := []) (n := 0) (L := L) rfl h H; simpa [byteCells] using this
  have hone' : (allOne [] && (notText (.string ⟨⟨[]⟩⟩) || Nat.beq 1 1)) = true := rfl
  unfold appT at hT
  split at hT
  case h_2 => cases hT
  rename_i hcal
  split at hT
  case h_2 => cases hT
  rename_i st xt hst hxt
  split at hT
  case h_2 => cases hT
  rename_i e' xd hu1 hu2
  have hxd : (∀ k, xd = .int k → False) ∧ ∃ i, P.info? e' = some i ∧ zeroFits P e' = true ∧ e' = e ∧ i.size = 1 ∧ i.bytes = bts := by
    split at hT
    · cases hT
    · rename_i hno
      split at hT
      case h_2 => cases hT
      rename_i i hi hz
      simp at hT
      obtain ⟨rfl, h1, rfl⟩ := hT
      exact ⟨fun k hk => hno k hk, i, hi, hz, rfl, h1, rfl⟩
  obtain ⟨hno, i, hi, hz, rfl, hi1, rfl⟩ := hxd
  simp only [opB, ho, ha, callOpB, hcal, appendB, hst, hxt, hu1, hu2]
  cases xd <;> first | exact (hno _ rfl).elim | skip
  all_goals
    simp only [hi, hi1, hn1, hf, hone']
    have hc : Nat.beq 0 openCap = false := beq_false (by decide)
    have b0 : Nat.ble (0 + 0) 0 = true := rfl
    simp only [hc, b0, beq_true rfl, ret2]
end
end Go.Am
namespace Go.Xp
set_option linter.unusedVariables false
theorem pre_pre (a b : B) : ∀ x, pre a (pre b x) = pre (a ++ b) x
  | .ok o => by simp [pre]
  | .error e => rfl
theorem pre_nil : ∀ x : Except Nat B, pre [] x = x
  | .ok o => rfl
  | .error e => rfl
theorem sub_nil (look : B → Option B) : sub look (([] : B).length + 1) [] = .ok [] := rfl
theorem sub_plain (look : B → Option B) {c : UInt8} {t : B} (h : c ≠ 36) : sub look ((c :: t).length + 1) (c :: t) = pre [c] (sub look (t.length + 1) t) := by
  have h1 := sub_D look (c :: t) []
  rw [pre_nil] at h1
  rw [h1, sub_D look t [c]]
  have e1 : hd 36 (c :: t) = c :: hd 36 t := by unfold hd; simp [h]
  have e2 : tl 36 (c :: t) = tl 36 t := by unfold tl; rw [e1]; simp
  have e3 : fd 36 (c :: t) = fd 36 t := by unfold fd; rw [e1]; simp
  rw [e1, e2, e3]
  rfl
theorem sub_dollar (look : B → Option B) (t : B) : sub look ((36 :: t).length + 1) (36 :: t) = match mark t with
    | none => .error 4
    | some (none, b) => pre [36] (sub look (b.length + 1) b)
    | some (some x, b) => match look x with
      | none => .error 63
      | some w => pre w (sub look (b.length + 1) b) := by
  have h1 := sub_D look (36 :: t) []
  rw [pre_nil] at h1
  rw [h1]
  have e1 : hd 36 (36 :: t) = [] := rfl
  have e2 : tl 36 (36 :: t) = t := rfl
  have e3 : fd 36 (36 :: t) = true := by unfold fd; rw [e1]; simp
  rw [e1, e2, e3, D, if_pos rfl]
  cases mark t with
  | none => rfl
  | some x =>
    obtain ⟨x, b⟩ := x
    cases x with
    | none => rfl
    | some x => cases look x <;> rfl
theorem run_split (u : B) : ∃ S, u = run u ++ S ∧ (∀ c, c ∈ run u → ofN c = true) ∧ (∀ c, u[0]? = some c → run u ≠ [] → lowB c = true) ∧ (∀ c, S[0]? = some c → (run u = [] → lowB c = false) ∧ (run u ≠ [] → ofN c = false)) := by
  cases u with
  | nil => exact ⟨[], rfl, fun c h => (by cases h), fun c h => (by cases h), fun c h => (by cases h)⟩
  | cons d t =>
    by_cases hd : lowB d = true
    · have hr : run (d :: t) = (d :: t).takeWhile ofN := by rw [run, if_pos hd]
      rw [hr]
      refine ⟨(d :: t).dropWhile ofN, (List.takeWhile_append_dropWhile ..).symm, fun c hc => List.all_eq_true.1 (List.all_takeWhile (p := ofN) (l := d :: t)) c hc, fun c h _ => by simp at h; rw [← h]; exact hd, fun c h => ⟨fun h0 => ?_, fun _ => ?_⟩⟩
      · rw [List.takeWhile_cons, if_pos (lowof hd)] at h0; cases h0
      · have h2 := List.head?_dropWhile_not (p := ofN) (l := d :: t)
        rw [← List.head?_eq_getElem?] at h
        rw [h] at h2
        simpa using h2
    · have hr : run (d :: t) = [] := by rw [run, if_neg hd]
      rw [hr]
      exact ⟨d :: t, rfl, fun c h => (by cases h), fun c _ h => absurd rfl h, fun c h => ⟨fun _ => by simp at h; rw [← h]; simpa using hd, fun h => absurd rfl h⟩⟩
theorem run_take (u : B) : u.take (run u).length = run u ∧ (run u).length ≤ u.length := by
  obtain ⟨S, h, _⟩ := run_split u
  constructor
  · conv => lhs; arg 2; rw [h]
    exact List.take_left' rfl
  · have := congrArg List.length h
    rw [List.length_append] at this; omega
theorem run_go {u : B} {m : Nat} (hm : m < (run u).length) : ∃ c, u[m]? = some c ∧ ofN c = true ∧ (m = 0 → lowB c = true) := by
  obtain ⟨S, h, h1, h2, _⟩ := run_split u
  have e : u[m]? = (run u)[m]? := by
    conv => lhs; rw [h]
    exact List.getElem?_append_left hm
  have e2 : (run u)[m]? = some (run u)[m] := List.getElem?_eq_getElem hm
  refine ⟨(run u)[m], by rw [e, e2], h1 _ (List.getElem_mem hm), fun h0 => ?_⟩
  subst h0
  exact h2 _ (by rw [e, e2]) (fun h => by rw [h] at hm; simp at hm)
theorem run_stop {u : B} {c : UInt8} (hc : u[(run u).length]? = some c) : ((run u).length = 0 → lowB c = false) ∧ ((run u).length ≠ 0 → ofN c = false) := by
  obtain ⟨S, h, _, _, h3⟩ := run_split u
  have e : u[(run u).length]? = S[0]? := by
    have : ∀ R : B, (R ++ S)[R.length]? = S[0]? := fun R => by rw [List.getElem?_append_right (Nat.le_refl _)]; simp
    rw [← this (run u), ← h]
  rw [e] at hc
  obtain ⟨h4, h5⟩ := h3 c hc
  exact ⟨fun h0 => h4 (List.eq_nil_of_length_eq_zero h0), fun h0 => h5 (fun h => h0 (by rw [h]; rfl))⟩
end Go.Xp
namespace Go.Proofs.Ytllcbjaajffaeaa
open Go.Am Go.Xp
set_option linter.unusedVariables false
set_option linter.unusedSimpArgs false
set_option maxRecDepth 20000
set_option maxHeartbeats 4000000
attribute [local irreducible] OS LSr ODS CS YS
section
variable {L : RL}
theorem letter13_ct (c : UInt8) : CS Try.prog 30 [.int .u8 (c.toNat : Nat)] L fun v L' => v = .bool (Go.Xp.lowB c) ∧ L' = L := by
  have e : Go.Xp.lowB c = (ileB 97 (c.toNat : Nat) && ileB (c.toNat : Nat) 122) := by rw [u8_le (k := 97) 97 rfl, u8_ge (k := 122) 122 rfl]; rfl
  rw [e]
  refine CS.mk (fn := Try.f30) rfl rfl rfl rfl ?_
  rcases tf (ileB 97 (c.toNat : Nat)) with h1 | h1 <;> rcases tf (ileB (c.toNat : Nat) 122) with h2 | h2 <;> rw [h1, h2]
  all_goals
    refine yG ?_
    exact ⟨rfl, rfl⟩
theorem mark13_ct (c : UInt8) : CS Try.prog 31 [.int .u8 (c.toNat : Nat)] L fun v L' => v = .bool (ofN c) ∧ L' = L := by
  have e : ofN c = (Go.Xp.lowB c || ((ileB 48 (c.toNat : Nat) && ileB (c.toNat : Nat) 57) || (ieqB (c.toNat : Nat) 45 || ieqB (c.toNat : Nat) 95))) := by
    rw [u8_le (k := 48) 48 rfl, u8_ge (k := 57) 57 rfl, cmp_u8 (k := 45) c 45 rfl, cmp_u8 (k := 95) c 95 rfl]; rfl
  rw [e]
  refine CS.mk (fn := Try.f31) rfl rfl rfl rfl ?_
  refine yG ?_
  refine OS.call noGo rfl (fun _ => rfl) ((letter13_ct c).mono ?_)
  rintro v L' ⟨rfl, rfl⟩
  refine ⟨_, rfl, ?_⟩
  rcases tf (Go.Xp.lowB c) with h0 | h0
  · rw [h0]
    refine yG ?_
    exact ⟨rfl, rfl⟩
  rcases tf (ileB 48 (c.toNat : Nat)) with h1 | h1 <;> rcases tf (ileB (c.toNat : Nat) 57) with h2 | h2 <;> rcases tf (ieqB (c.toNat : Nat) 45) with h3 | h3 <;> rcases tf (ieqB (c.toNat : Nat) 95) with h4 | h4 <;> rw [h0, h1, h2, h3, h4]
  all_goals
    refine yG ?_
    exact ⟨rfl, rfl⟩
end
end Go.Proofs.Ytllcbjaajffaeaa
