/- Layer 14: Parse, the program's. -/
import Derived.Test.YtllcbjaajffaeaaMd
namespace Go.Mx
def joinT (bs : B) : Option (B × Option B) → Option (B × Option B) := Option.map fun x => (bs ++ x.1, x.2)
theorem take_len (e : UInt8) : ∀ (n : Nat) (s : B) (p r : B), s.length ≤ n → take e s = some (p, some r) → p.length + r.length < s.length
  | _, [], p, r, _, h => by rw [take_nil] at h; simp at h
  | 0, c :: s, _, _, h, _ => by simp at h
  | n + 1, c :: s, p, r, hn, h => by
    simp only [List.length_cons] at hn
    by_cases h1 : (c == e) = true
    · rw [take_end h1] at h
      simp at h
      obtain ⟨rfl, rfl⟩ := h
      simp
    · have h1 : (c == e) = false := by simpa using h1
      by_cases h2 : (c == 92) = true
      · have hc : c = 92 := by simpa using h2
        subst hc
        cases s with
        | nil => rw [take_q0 h1] at h; cases h
        | cons d s =>
          rw [take_q h1] at h
          split at h
          · obtain ⟨x, hx, h⟩ := Option.map_eq_some_iff.1 h
            obtain ⟨p', r'⟩ := x
            simp at h
            obtain ⟨rfl, rfl⟩ := h
            have := take_len e n s p' r (by simp at hn; omega) hx
            simp; omega
          · cases h
      · rw [take_c h1 (by simpa using h2)] at h
        obtain ⟨x, hx, h⟩ := Option.map_eq_some_iff.1 h
        obtain ⟨p', r'⟩ := x
        simp at h
        obtain ⟨rfl, rfl⟩ := h
        have := take_len e n s p' r (by omega) hx
        simp; omega
theorem take_len0 (e : UInt8) : ∀ (n : Nat) (s : B) (p : B), s.length ≤ n → take e s = some (p, none) → p.length ≤ s.length
  | _, [], p, _, h => by rw [take_nil] at h; simp at h; simp [← h]
  | 0, c :: s, _, h, _ => by simp at h
  | n + 1, c :: s, p, hn, h => by
    simp only [List.length_cons] at hn
    by_cases h1 : (c == e) = true
    · rw [take_end h1] at h; simp at h
    · have h1 : (c == e) = false := by simpa using h1
      by_cases h2 : (c == 92) = true
      · have hc : c = 92 := by simpa using h2
        subst hc
        cases s with
        | nil => rw [take_q0 h1] at h; cases h
        | cons d s =>
          rw [take_q h1] at h
          split at h
          · obtain ⟨x, hx, h⟩ := Option.map_eq_some_iff.1 h
            obtain ⟨p', r'⟩ := x
            simp at h
            obtain ⟨rfl, rfl⟩ := h
            have := take_len0 e n s p' (by simp at hn; omega) hx
            simp; omega
          · cases h
      · rw [take_c h1 (by simpa using h2)] at h
        obtain ⟨x, hx, h⟩ := Option.map_eq_some_iff.1 h
        obtain ⟨p', r'⟩ := x
        simp at h
        obtain ⟨rfl, rfl⟩ := h
        have := take_len0 e n s p' (by omega) hx
        simp; omega
end Go.Mx
namespace Go.Proofs.Ytllcbjaajffaeaa
open Go.Am Go.Mx
set_option linter.unusedVariables false
set_option linter.unusedSimpArgs false
set_option maxRecDepth 20000
set_option maxHeartbeats 4000000
attribute [local irreducible] OS LSr ODS CS
abbrev pRow (s : W) (m : Bool) : ARow := .cells 70 [str s, .bool m]
/-- What comes of a part that is taken off. -/
def TakeR (rp : Nat) (F : RL) (x : Option (W × Option W)) (v : Value) (L' : RL) : Prop := match x with
  | none => v = .tuple #[str [], .int .i64 4] ∧ ∃ Z, L' = Z ++ F
  | some (p, none) => v = .tuple #[str p, .int .i64 0] ∧ L' = (rp, pRow [] false) :: F
  | some (p, some r) => v = .tuple #[str p, .int .i64 0] ∧ L' = (rp, pRow r true) :: F
def EndsZ (F L : RL) : Prop := ∃ Z, L = Z ++ F
theorem EndsZ.tail {F L : RL} {x : Nat × ARow} (h : EndsZ (x :: F) L) : ∃ Z, L = Z ++ F := by
  obtain ⟨Z, rfl⟩ := h
  exact ⟨Z ++ [x], by simp⟩
theorem BD.ends {b : Nat} {bs : W} {F L : RL} (h : BD b bs F L) : EndsZ F L := by
  rcases h with ⟨_, rfl⟩ | ⟨_, r, rfl⟩
  · exact ⟨[_], rfl⟩
  · exact ⟨[_, _], rfl⟩
theorem gv_ends {e : TypeId} {sz n : Nat} {F L : RL} {v : Value} {cs : List Value} (h : GV e sz F v n cs L) : EndsZ F L := by
  rcases h with ⟨_, _, _, rfl⟩ | ⟨r, _, _, rfl⟩
  · exact ⟨[], rfl⟩
  · exact ⟨[_], rfl⟩
theorem take_ct {F : RL} {rp : Nat} {s : W} {m : Bool} (e : UInt8) (he : e ≠ 92) (hn : s.length ≤ 90000000000000) : CS Try.prog 35 [ptr rp, .int .u8 (e.toNat : Nat)] ((rp, pRow s m) :: F) fun v L' => TakeR rp F (Mx.take e s) v L' := by
  refine CS.mk (fn := Try.f35) rfl rfl rfl rfl ?_
  refine yG ?_
  refine OS.fresh rfl (e_new (fun _ => rfl) rfl) (fun _ => rfl) (fun b => ?_)
  refine yG ?_
  have h92 : ((92 : UInt8) == e) = false := by simp; exact fun h => he h.symm
  refine LS.loopJ [0, 1, 6, 7] (fun q a L' => ∃ (i : Nat) (bs : W), q = s.length - i ∧ i ≤ s.length ∧ bs.length ≤ i ∧ Mx.take e s = joinT bs (Mx.take e (s.drop i)) ∧ BD b bs ((rp, pRow s m) :: F) L' ∧ a = [ptr rp, .int .u8 (e.toNat : Nat), .chan none, .chan none, .chan none, .chan none, ptr b, .int .i64 (i : Nat), .chan none, .chan none, .chan none, .chan none, .chan none, .chan none, .chan none, .chan none, .chan none, .chan none, .chan none, .chan none, .chan none, .chan none, .chan none, .chan none, .chan none, .chan none, .chan none, .chan none, .chan none, .chan none, .chan none, .chan none, .chan none, .chan none, .chan none, .chan none, .chan none, .chan none, .chan none, .chan none, .chan none, .chan none, .chan none, .chan none, .chan none, .chan none, .chan none, .chan none, .chan none, .chan none, .chan none, .chan none, .chan none, .chan none, .chan none, .chan none, .chan none, .chan none, .chan none, .chan none, .chan none, .chan none, .chan none, .chan none, .chan none, .chan none, .chan none, .chan none, .chan none, .chan none, .chan none, .chan none, .chan none, .chan none, .chan none, .chan none, .chan none, .chan none]) (n := s.length) rfl ⟨0, [], rfl, by omega, by simp, by simp [joinT], .inl ⟨rfl, rfl⟩, rfl⟩ ?_
  rintro q a L' ⟨i, bs, rfl, hi, hbl, ht, hB, rfl⟩
  have hm : (rp, pRow s m) ∈ L' := hB.mem _ (List.mem_cons_self ..)
  refine yG ?_
  refine OS.read rfl (e_loadm hm rfl rfl rfl (part_one rfl rfl)) rfl ?_
  refine yG ?_
  repeat refine LS.seq ?_
  refine LS.cond rfl (fun hc => ?_) (fun hc => ?_)
  · have hc := lt_of hc
    obtain ⟨c, hck⟩ := ext_list (l := s) (k := i) (by omega)
    have hdrop : s.drop i = c :: s.drop (i + 1) := by
      rw [List.drop_eq_getElem_cons (by omega)]; congr 1; exact (List.getElem?_eq_some_iff.1 hck).2
    rw [hdrop] at ht
    refine LS.skip ?_
    refine yG ?_
    refine OS.read rfl (e_loadm hm rfl rfl rfl (part_one rfl rfl)) rfl ?_
    rcases tf (ieqB (c.toNat : Nat) (e.toNat : Nat)) with h1 | h1
    · have g1 := h1
      rw [eq_u8] at g1
      rw [take_end g1] at ht
      refine yG ?_
      refine OS.read rfl (e_loadm hm rfl rfl rfl (part_one rfl rfl)) rfl ?_
      refine yG ?_
      refine OS.pure rfl (e_part (s := s) (l := i + 1) (u := s.length) rfl rfl rfl rfl bound_nat rfl rfl (by omega) (by omega)) rfl ?_
      rw [List.take_of_length_le (by simp)]
      rw [ht]
      rcases hB with ⟨rfl, rfl⟩ | ⟨h0, r, rfl⟩
      · refine OS.pure rfl (fun _ => rfl) rfl ?_
        refine OS.pure rfl (fun _ => rfl) rfl ?_
        refine OS.write rfl (e_store 1 rfl rfl rfl rfl rfl rfl rfl rfl) rfl ?_
        refine yG ?_
        refine OS.call noGo rfl (fun _ => rfl) ((String_ct (.inl ⟨rfl, rfl⟩) (by simp)).mono ?_)
        rintro v' L3 ⟨rfl, hL⟩
        rw [hL]
        refine yG ?_
        exact ⟨rfl, rfl⟩
      · refine OS.pure rfl (fun _ => rfl) rfl ?_
        refine OS.pure rfl (fun _ => rfl) rfl ?_
        refine OS.write rfl (e_store 2 rfl rfl rfl rfl rfl rfl rfl rfl) rfl ?_
        refine OS.pure rfl (fun _ => rfl) rfl ?_
        refine OS.pure rfl (fun _ => rfl) rfl ?_
        refine OS.write rfl (e_store 2 rfl rfl rfl rfl rfl rfl rfl rfl) rfl ?_
        refine OS.nil ?_
        refine yG ?_
        refine OS.call noGo rfl (fun _ => rfl) ((String_ct (.inr ⟨h0, r, rfl⟩) (by omega)).mono ?_)
        rintro v' L3 ⟨rfl, hL⟩
        rw [hL]
        refine yG ?_
        exact ⟨by rw [List.append_nil]; rfl, rfl⟩
    · have g1 := h1
      rw [eq_u8] at g1
      rcases tf (ieqB (c.toNat : Nat) 92) with h2 | h2
      · obtain rfl : c = 92 := by
          have h9 := h2
          rw [cmp_u8 (k := 92) c 92 rfl] at h9
          simpa using h9
        cases hs2 : s.drop (i + 1) with
        | nil =>
          rw [hs2, take_q0 h92] at ht
          have hi2 : i + 1 = s.length := by
            have := congrArg List.length hs2
            simp at this; omega
          have hb : ieqB ((i + 1 : Nat) : Int) (s.length : Nat) = true := by rw [hi2, ieqB_eq]; simp
          refine yG ?_
          refine OS.read rfl (e_loadm hm rfl rfl rfl (part_one rfl rfl)) rfl ?_
          refine yG ?_
          rw [ht]
          exact ⟨rfl, hB.ends.tail⟩
        | cons d s2 =>
          rw [hs2, take_q h92] at ht
          have hlt : i + 1 < s.length := by
            have := congrArg List.length hs2
            simp at this; omega
          have hd : s[i + 1]? = some d := by
            have : (s.drop (i + 1))[0]? = some d := by rw [hs2]; rfl
            simpa using this
          have hs3 : s.drop (i + 1 + 1) = s2 := by rw [← List.drop_drop, hs2]; rfl
          have hb : ieqB ((i + 1 : Nat) : Int) (s.length : Nat) = false := by rw [ieqB_eq]; simp; omega
          refine yG ?_
          refine OS.read rfl (e_loadm hm rfl rfl rfl (part_one rfl rfl)) rfl ?_
          refine yG ?_
          refine OS.read rfl (e_loadm hm rfl rfl rfl (part_one rfl rfl)) rfl ?_
          refine yG ?_
          refine OS.call noGo rfl (fun _ => rfl) ((isQuoted_ct d e).mono ?_)
          rintro v' L2 ⟨rfl, hL⟩
          rw [hL]
          clear hL
          rcases tf (isQ d e) with h3 | h3
          · rw [if_pos h3] at ht
            rw [h3]
            refine yG ?_
            refine OS.read rfl (e_loadm hm rfl rfl rfl (part_one rfl rfl)) rfl ?_
            refine yG ?_
            refine OS.call noGo rfl (fun _ => rfl) ((WriteByte_ct d hB (by omega)).mono ?_)
            rintro v' L2 ⟨rfl, hB2⟩
            refine yG ?_
            refine ⟨s.length - (i + 1 + 1), by omega, i + 1 + 1, bs ++ [d], rfl, by omega, by simp; omega, ?_, hB2, rfl⟩
            rw [ht, hs3]
            cases Mx.take e s2 <;> simp [joinT]
          · rw [if_neg (by rw [h3]; simp)] at ht
            rw [h3]
            refine yG ?_
            rw [ht]
            exact ⟨rfl, hB.ends.tail⟩
      · have g2 : (c == 92) = false := by
          have h9 := h2
          rw [cmp_u8 (k := 92) c 92 rfl] at h9
          exact h9
        rw [take_c g1 g2] at ht
        clear g2
        refine yG ?_
        refine OS.call noGo rfl (fun _ => rfl) ((WriteByte_ct c hB (by omega)).mono ?_)
        rintro v' L2 ⟨rfl, hB2⟩
        refine yG ?_
        refine ⟨s.length - (i + 1), by omega, i + 1, bs ++ [c], rfl, by omega, by simp; omega, ?_, hB2, rfl⟩
        rw [ht]
        cases Mx.take e (s.drop (i + 1)) <;> simp [joinT]
  · have hc := nlt_of hc
    obtain rfl : i = s.length := by omega
    rw [List.drop_length, take_nil] at ht
    rw [ht]
    refine LS.exit ?_
    rcases hB with ⟨rfl, rfl⟩ | ⟨h0, r, rfl⟩
    · refine yG ?_
      refine OS.call noGo rfl (fun _ => rfl) ((String_ct (.inl ⟨rfl, rfl⟩) (by simp)).mono ?_)
      rintro v' L3 ⟨rfl, hL⟩
      rw [hL]
      refine yG ?_
      exact ⟨rfl, rfl⟩
    · refine yG ?_
      refine OS.call noGo rfl (fun _ => rfl) ((String_ct (.inr ⟨h0, r, rfl⟩) (by omega)).mono ?_)
      rintro v' L3 ⟨rfl, hL⟩
      rw [hL]
      refine yG ?_
      exact ⟨by rw [List.append_nil]; rfl, rfl⟩
/-- What comes of a label. -/
def ParseR (L : RL) (x : Option (List W)) (v : Value) (L' : RL) : Prop := match x with
  | none => v = .tuple #[str [], .slice none 0 0, .int .i64 4] ∧ ∃ Z, L' = Z ++ L
  | some [] => False
  | some (n :: vs) => ∃ A c, v = .tuple #[str n, .slice A vs.length c, .int .i64 0] ∧ GV 9 1 L (.slice A vs.length c) vs.length (strs vs) L'
end Go.Proofs.Ytllcbjaajffaeaa
