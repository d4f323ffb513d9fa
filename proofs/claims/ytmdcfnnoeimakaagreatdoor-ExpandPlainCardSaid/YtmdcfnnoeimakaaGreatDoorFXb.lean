/- Layer 13: what the calls of the library come to; names. -/
import Derived.Test.YtmdcfnnoeimakaaGreatDoorFRh
import Derived.Test.YtmdcfnnoeimakaaGreatDoorXa
import Derived.Lib.Bytealg
namespace Go.Am
section
variable {P : Program} {o : Oper} {a : Slots} {L L₁ : RL}
theorem e_append_txt (i : Nat) {c : Call} {e : TypeId} {bts len n r off : Nat} {s : List UInt8} {old cs : List Value} (ho : o.op = .call c) (hT : appT P c = some (e, 1, bts)) (ha : evs a c.args.toList = some [.slice (some ⟨r, off, none⟩) len openCap, .string ⟨⟨s⟩⟩])
    (hn : n = s.length) (hsm : (len + n) * bts ≤ 140737488355328) (hsm2 : len + n ≤ 140737488355328) (hL : L[i]? = some (r, .cells e cs)) (hcut : cut cs off (len * 1) = some old) (hd : dropL L i = some L₁) :
    ∀ h, Has h L → ∃ r' h₁, opB P a o h = some (.val (.slice (some ⟨r', 0, none⟩) (len + n) openCap) h₁) ∧ Has h₁ ((r', .cells e (old ++ byteCells s)) :: L₁) :=
  e_append i ho hT ha (by rw [hn]; rfl) (first_text hn) (by rw [byteCells_one]; rfl) hsm hsm2 hL hcut hd
theorem e_append0_txt {c : Call} {e : TypeId} {bts n : Nat} {s : List UInt8} (ho : o.op = .call c) (hT : appT P c = some (e, 1, bts)) (ha : evs a c.args.toList = some [.slice none 0 0, .string ⟨⟨s⟩⟩]) (hn : n = s.length)
    (hsm : n * bts ≤ 140737488355328) (hsm2 : n ≤ 140737488355328) (hpos : 0 < n) :
    ∀ h, Has h L → ∃ r' h₁, opB P a o h = some (.val (.slice (some ⟨r', 0, none⟩) n openCap) h₁) ∧ Has h₁ ((r', .cells e (byteCells s)) :: L) :=
  e_append0 ho hT ha (by rw [hn]; rfl) (first_text hn) (by rw [byteCells_one]; rfl) hsm hsm2 hpos
end

end Go.Am
namespace Go.Xp
theorem idx_cases (c : UInt8) : ∀ s : B, (Lib.indexByte s c = -1 ∧ c ∉ s) ∨ ∃ a t, s = a ++ c :: t ∧ c ∉ a ∧ Lib.indexByte s c = (a.length : Nat)
  | [] => .inl ⟨rfl, by simp⟩
  | b :: s => by
    by_cases h : b = c
    · subst h
      exact .inr ⟨[], s, rfl, by simp, by simp [Lib.indexByte]⟩
    · have hb : (b == c) = false := by simpa using h
      rcases idx_cases c s with ⟨h1, h2⟩ | ⟨a, t, rfl, h2, h3⟩
      · exact .inl ⟨by simp [Lib.indexByte, hb, h1], fun hm => by rcases List.mem_cons.1 hm with e | e; exact h e.symm; exact h2 e⟩
      · refine .inr ⟨b :: a, t, rfl, fun hm => by rcases List.mem_cons.1 hm with e | e; exact h e.symm; exact h2 e, ?_⟩
        have : ¬ ((a.length : Int) = -1) := by omega
        simp [Lib.indexByte, hb, h3, this]

theorem tw_none {c : UInt8} : ∀ {a : B}, c ∉ a → a.takeWhile (· != c) = a
  | [], _ => rfl
  | b :: a, h => by
    have h1 : b ≠ c := fun e => h (by simp [e])
    have h2 : c ∉ a := fun e => h (by simp [e])
    simp [h1, tw_none h2]
theorem tw_at {c : UInt8} {t : B} : ∀ {a : B}, c ∉ a → (a ++ c :: t).takeWhile (· != c) = a
  | [], _ => by simp
  | b :: a, h => by
    have h1 : b ≠ c := fun e => h (by simp [e])
    have h2 : c ∉ a := fun e => h (by simp [e])
    simp [h1, tw_at h2]
/-- What stands ahead of a byte, and behind it. -/
def hd (c : UInt8) (s : B) : B := s.takeWhile (· != c)
def tl (c : UInt8) (s : B) : B := s.drop ((hd c s).length + 1)
def fd (c : UInt8) (s : B) : Bool := decide ((hd c s).length < s.length)
end Go.Xp
namespace Go.Proofs.YtmdcfnnoeimakaaGreatDoor.E
open Go.Proofs.YtmdcfnnoeimakaaGreatDoor
open Go.Am Go.Xp
set_option linter.unusedVariables false
set_option linter.unusedSimpArgs false
set_option maxRecDepth 20000
set_option maxHeartbeats 4000000
attribute [local irreducible] OS LSr ODS CS YS
theorem index_ext (s : List UInt8) (c : UInt8) : Ext Tryz.prog 73 [str s, .int .u8 (c.toNat : Nat)] (.int .i64 (Lib.indexByte s c)) := by
  refine ⟨_, Extern.BytealgIndexByte.indexByte, rfl, by kernel_rfl, by kernel_rfl, by kernel_rfl, by kernel_rfl, fun ρ us w h => ?_⟩
  cases h with
  | cons h1 h2 =>
    cases h1
    cases h2 with
    | cons h3 h4 =>
      cases h3; cases h4
      refine ⟨_, Lib.run_indexByteString _ _ w, ?_⟩
      have : (c.toNat : Int).toNat.toUInt8 = c := by simp
      rw [this]
      exact .int _ _

theorem take_one {A : Type} {l : List A} {k : Nat} {x : A} (h : l[k]? = some x) : l.take (k + 1) = l.take k ++ [x] := by
  rw [List.take_add_one, h]; rfl
section
variable {L : RL}
theorem u8_le {c : UInt8} {k : Int} (n : Nat) (hk : k = (n : Int)) : ileB k (c.toNat : Nat) = decide (n ≤ c.toNat) := by rw [ileB_eq, hk, Bool.eq_iff_iff]; simp
theorem u8_ge {c : UInt8} {k : Int} (n : Nat) (hk : k = (n : Int)) : ileB (c.toNat : Nat) k = decide (c.toNat ≤ n) := by rw [ileB_eq, hk, Bool.eq_iff_iff]; simp
theorem isSmall_ct (c : UInt8) : CS Tryz.prog 61 [.int .u8 (c.toNat : Nat)] L fun v L' => v = .bool (Go.Xp.lowB c) ∧ L' = L := by
  have e : Go.Xp.lowB c = (ileB 97 (c.toNat : Nat) && ileB (c.toNat : Nat) 122) := by rw [u8_le (k := 97) 97 rfl, u8_ge (k := 122) 122 rfl]; rfl
  rw [e]
  refine CS.mk (fn := Tryz.f61) rfl rfl rfl rfl ?_
  rcases tf (ileB 97 (c.toNat : Nat)) with h1 | h1 <;> rcases tf (ileB (c.toNat : Nat) 122) with h2 | h2 <;> rw [h1, h2]
  all_goals
    refine yG ?_
    exact ⟨rfl, rfl⟩
theorem isOfName_ct (c : UInt8) : CS Tryz.prog 63 [.int .u8 (c.toNat : Nat)] L fun v L' => v = .bool (ofN c) ∧ L' = L := by
  have e : ofN c = (Go.Xp.lowB c || ((ileB 48 (c.toNat : Nat) && ileB (c.toNat : Nat) 57) || (ieqB (c.toNat : Nat) 45 || ieqB (c.toNat : Nat) 95))) := by
    rw [u8_le (k := 48) 48 rfl, u8_ge (k := 57) 57 rfl, cmp_u8 (k := 45) c 45 rfl, cmp_u8 (k := 95) c 95 rfl]; rfl
  rw [e]
  refine CS.mk (fn := Tryz.f63) rfl rfl rfl rfl ?_
  refine yG ?_
  refine OS.call noGo rfl (fun _ => rfl) ((isSmall_ct c).mono ?_)
  rintro v L' ⟨rfl, rfl⟩
  refine ⟨_, rfl, ?_⟩
  rcases tf (Go.Xp.lowB c) with h0 | h0
  · rw [h0]
    refine yG ?_
    exact ⟨rfl, rfl⟩
  rcases tf (ileB 48 (c.toNat : Nat)) with h1 | h1 <;> rcases tf (ileB (c.toNat : Nat) 57) with h2 | h2 <;> rcases tf (ieqB (c.toNat : Nat) 45) with h3 | h3 <;> rcases tf (ieqB (c.toNat : Nat) 95) with h4 | h4 <;> rw [h0, h1, h2, h3, h4]
  all_goals
    refine yG ?_
    exact ⟨rfl, rfl⟩
theorem consists_ct {f : FuncId} {p : UInt8 → Bool} (hf : ∀ c, CS Tryz.prog f [.int .u8 (c.toNat : Nat)] L fun v L' => v = .bool (p c) ∧ L' = L) (s : List UInt8) (hs : s.length ≤ 1000000000000) :
    CS Tryz.prog 62 [str s, .func (.func f) #[] #[]] L fun v L' => v = .bool (s.all p) ∧ L' = L := by
  refine CS.mk (fn := Tryz.f62) rfl rfl rfl rfl ?_
  refine yG ?_
  refine LS.loopJ [0, 1, 7, 8] (fun q a L' => ∃ k : Nat, q = s.length - k ∧ k ≤ s.length ∧ (s.take k).all p = true ∧ L' = L ∧ a = [str s, .func (.func f) #[] #[], .chan none, .chan none, .chan none, .chan none, .chan none, .int .i64 (s.length : Nat), .int .i64 (k : Nat), .chan none, .chan none, .chan none, .chan none, .chan none, .chan none, .chan none, .chan none, .chan none]) (n := s.length) rfl ⟨0, rfl, by omega, rfl, rfl, rfl⟩ ?_
  rintro q a L' ⟨k, rfl, hk, hall, rfl, rfl⟩
  refine yG ?_
  repeat refine LS.seq ?_
  refine LS.cond rfl (fun hc => ?_) (fun hc => ?_)
  · have hc := lt_of hc
    have hkl : k < s.length := by omega
    obtain ⟨c, hcb⟩ : ∃ c, s[k]? = some c := ⟨_, List.getElem?_eq_getElem hkl⟩
    refine LS.skip ?_
    refine yG ?_
    refine OS.call noGo rfl (fun _ => rfl) ((hf c).mono ?_)
    rintro v L' ⟨rfl, rfl⟩
    refine ⟨_, rfl, ?_⟩
    rcases tf (p c) with h | h
    · rw [h]
      refine yG ?_
      exact ⟨s.length - (k + 1), by omega, k + 1, rfl, by omega, by rw [take_one hcb, List.all_append, hall]; simp [h], rfl, rfl⟩
    · rw [h]
      refine yG ?_
      refine ⟨?_, rfl⟩
      have : s.all p = false := by
        rw [Bool.eq_false_iff]
        intro hh
        have := List.all_eq_true.1 hh c (List.mem_of_getElem? hcb)
        rw [h] at this; cases this
      rw [this]; rfl
  · have hc := nlt_of hc
    obtain rfl : k = s.length := by omega
    refine LS.exit ?_
    refine yG ?_
    rw [List.take_length] at hall
    rw [hall]
    exact ⟨rfl, rfl⟩
theorem nm_eq (s : List UInt8) : Go.Xp.nm s = (decide (s.length ≤ 24) && ((match s with | [] => false | c :: _ => Go.Xp.lowB c) && s.all ofN)) := rfl
theorem Name_ct (s : List UInt8) (hs : s.length ≤ 9000000000000000) : CS Tryz.prog 46 [str s] L fun v L' => v = .bool (Go.Xp.nm s) ∧ L' = L := by
  rw [nm_eq]
  refine CS.mk (fn := Tryz.f46) rfl rfl rfl rfl ?_
  cases s with
  | nil =>
    refine yG ?_
    exact ⟨rfl, rfl⟩
  | cons c s =>
    have hb : (!bytesEq (c :: s) []) = true := rfl
    by_cases hl : (c :: s).length ≤ 24
    · have hb2 : ileB (((c :: s).length : Nat) : Int) 24 = true := by rw [ileB_eq]; simp at hl ⊢; omega
      refine yG ?_
      refine OS.pure rfl (e_byte (j := 0) rfl rfl rfl rfl rfl) rfl ?_
      refine OS.call noGo rfl (fun _ => rfl) ((isSmall_ct c).mono ?_)
      rintro v L' ⟨rfl, rfl⟩
      refine ⟨_, rfl, ?_⟩
      rcases tf (Go.Xp.lowB c) with h | h
      · rw [h]
        refine yG ?_
        refine OS.call noGo rfl (fun _ => rfl) ((consists_ct (p := ofN) (fun c => isOfName_ct c) (c :: s) (Nat.le_trans hl (by decide))).mono ?_)
        rintro v L' ⟨rfl, rfl⟩
        refine ⟨_, rfl, ?_⟩
        refine yG ?_
        rw [decide_eq_true hl]
        refine ⟨congrArg Value.bool ?_, rfl⟩
        simp [h]
      · rw [h]
        refine yG ?_
        rw [decide_eq_true hl]
        refine ⟨congrArg Value.bool ?_, rfl⟩
        simp [h]
    · have hb2 : ileB (((c :: s).length : Nat) : Int) 24 = false := by rw [ileB_eq]; simp at hl ⊢; omega
      refine yG ?_
      rw [decide_eq_false hl]
      exact ⟨rfl, rfl⟩

theorem Cut_ct (s : W) (c : UInt8) (hs : s.length ≤ 1000000000000) : CS Tryz.prog 21 [str s, str [c]] L fun v L' => v = .tuple #[str (Xp.hd c s), str (tl c s), .bool (fd c s)] ∧ L' = L := by
  have k0 : CS Tryz.prog 55 [str s, .int .u8 (c.toNat : Nat)] L fun v L' => v = .int .i64 (Lib.indexByte s c) ∧ L' = L := by
    refine CS.mk (fn := Tryz.f55) rfl rfl rfl rfl ?_
    refine yG ?_
    refine OS.ext (index_ext s c) rfl (fun _ => rfl) rfl ?_
    refine yG ?_
    exact ⟨rfl, rfl⟩
  have k2 : CS Tryz.prog 43 [str s, str [c]] L fun v L' => v = .int .i64 (Lib.indexByte s c) ∧ L' = L := by
    refine CS.mk (fn := Tryz.f43) rfl rfl rfl rfl ?_
    rcases tf (bytesEq [c] s) with h | h
    · have hs : s = [c] := by rw [beq_bytes] at h; exact (of_decide_eq_true h).symm
      refine yG ?_
      refine ⟨?_, rfl⟩
      subst hs
      simp [Lib.indexByte]
      rfl
    · refine yG ?_
      refine OS.pure rfl (e_byte (j := 0) rfl rfl rfl rfl rfl) rfl ?_
      refine OS.call noGo rfl (fun _ => rfl) ((k0).mono ?_)
      rintro v L' ⟨rfl, rfl⟩
      refine ⟨_, rfl, ?_⟩
      refine yG ?_
      exact ⟨rfl, rfl⟩
  have k3 : CS Tryz.prog 31 [str s, str [c]] L fun v L' => v = .tuple #[str (Xp.hd c s), str (tl c s), .bool (fd c s)] ∧ L' = L := by
    refine CS.mk (fn := Tryz.f31) rfl rfl rfl rfl ?_
    refine yG ?_
    refine OS.call noGo rfl (fun _ => rfl) ((k2).mono ?_)
    rintro v L' ⟨rfl, rfl⟩
    rcases idx_cases c s with ⟨h1, h2⟩ | ⟨a, t, h0, h2, h3⟩
    · have e1 : Xp.hd c s = s := tw_none h2
      have e2 : tl c s = [] := by unfold tl; rw [e1]; simp
      have e3 : fd c s = false := by unfold fd; rw [e1]; simp
      have hb : ileB 0 (Lib.indexByte s c) = false := by rw [h1]; rfl
      rw [e1, e2, e3]
      refine ⟨_, rfl, ?_⟩
      refine yG ?_
      exact ⟨rfl, rfl⟩
    · have e1 : Xp.hd c s = a := by unfold Xp.hd; rw [h0]; exact tw_at h2
      have hl : a.length + (1 + t.length) = s.length := by rw [h0]; simp; omega
      have e2 : tl c s = t := by unfold tl; rw [e1, h0, show a ++ c :: t = (a ++ [c]) ++ t by simp, List.drop_left' (by simp)]
      have e3 : fd c s = true := by unfold fd; rw [e1]; simp; omega
      rw [e1, e2, e3, h3]
      have hb : ileB 0 ((a.length : Nat) : Int) = true := by rw [ileB_eq]; simp
      have t1 : (s.drop 0).take (a.length - 0) = a := by rw [h0]; simp
      have t2 : (s.drop (a.length + 1)).take (s.length - (a.length + 1)) = t := by
        rw [List.take_of_length_le (by simp), h0]
        rw [show a ++ c :: t = (a ++ [c]) ++ t by simp, List.drop_left' (by simp)]
      refine ⟨_, rfl, ?_⟩
      refine yG ?_
      repeat refine LS.seq ?_
      refine LS.drawn noGo mixed [(0, false), (1, false), (2, false), (3, false), (4, false), (5, false), (6, false), (7, false), (8, false), (9, false), (10, false), (11, false)] rfl rfl (by kernel_rfl) ?_
      refine yG ?_
      refine ODS.pure rfl rfl (e_part (s := s) (l := 0) (u := a.length) rfl rfl rfl rfl rfl bound_nat rfl (by omega) (by omega)) rfl ?_
      rw [t1]
      refine yG ?_
      refine ODS.pure rfl rfl (e_part (s := s) (l := a.length + 1) (u := s.length) rfl rfl rfl rfl bound_nat rfl rfl (by omega) (by omega)) rfl ?_
      rw [t2]
      refine yG ?_
      exact ⟨rfl, rfl⟩
  refine CS.mk (fn := Tryz.f21) rfl rfl rfl rfl ?_
  refine yG ?_
  refine OS.call noGo rfl (fun _ => rfl) ((k3).mono ?_)
  rintro v L' ⟨rfl, rfl⟩
  refine ⟨_, rfl, ?_⟩
  refine yG ?_
  exact ⟨rfl, rfl⟩
end
end Go.Proofs.YtmdcfnnoeimakaaGreatDoor.E
