/- Layer 1: the program's readers. -/
import Derived.Test.YtnfenpkkhkdkhaaLe
namespace Go.Proofs.Ytnfenpkkhkdkhaa
open Go.Am
set_option linter.unusedVariables false
set_option maxRecDepth 20000

/-- Where a reader stands: what is ahead of it; has it failed? -/
abbrev St := List UInt8 × Bool
/-- A thing is taken off: z, where there is none, else t, of k bytes. -/
def tk {α : Type} (z t : α) (k : Nat) (s : St) : α × St := if s.2 = true then (z, s) else if k = 0 then (z, ([], true)) else (t, (s.1.drop k, false))
theorem tk_failed {α : Type} {z t : α} {k : Nat} {bs : List UInt8} : tk z t k (bs, true) = (z, (bs, true)) := rfl
theorem tk_none {α : Type} {z t : α} {bs : List UInt8} : tk z t 0 (bs, false) = (z, ([], true)) := rfl
theorem tk_some {α : Type} {z t : α} {k : Nat} {bs : List UInt8} (h : k ≠ 0) : tk z t k (bs, false) = (t, (bs.drop k, false)) := by unfold tk; rw [if_neg (by simp), if_neg h]

abbrev txt (s : List UInt8) : Value := .string ⟨⟨s⟩⟩
theorem fAt_len (bs : List UInt8) : (fAt bs).2 ≤ bs.length := by
  cases bs with
  | nil => simp [fAt]
  | cons c bs => simp only [fAt]; split <;> simp
theorem sAt_len (bs : List UInt8) (most : Int) : (sAt bs most).2 ≤ bs.length := by
  unfold sAt
  split
  · simp
  · simp only; omega

/-- A reader's row. -/
abbrev rdRowOf (v : Value) (f : Bool) : ARow := .cells 79 [v, .bool f]
/-- The reader r stands there, ahead of the rows M. -/
def RDR (M : RL) (r : Nat) (s : St) (L : RL) : Prop := ∃ v, L = (r, rdRowOf v s.2) :: M ∧ OV M v s.1

theorem OV.uncons {M : RL} {r : Nat} {e : TypeId} {cs : List Value} {v : Value} {bs : List UInt8} (he : e ≠ 5) (h : OV ((r, .cells e cs) :: M) v bs) : OV M v bs := by
  rcases h with h | ⟨r', off, C, h1, h2, h3⟩
  · exact .inl h
  · refine .inr ⟨r', off, C, h1, ?_, h3⟩
    rcases List.mem_cons.1 h2 with h2 | h2
    · simp at h2; exact absurd h2.2.1.symm he
    · exact h2

theorem whole_ct {M : RL} {r : Nat} {v : Value} {f : Bool} : CS Try.prog 61 [.pointer (some ⟨r, 0, none⟩)] ((r, rdRowOf v f) :: M) fun v' L' => v' = .bool (!f) ∧ L' = (r, rdRowOf v f) :: M := by
  refine CS.mk (fn := Try.f61) rfl rfl rfl rfl ?_
  repeat refine LS.seq ?_
  refine LS.region rfl ?_
  refine OS.pure rfl (fun _ => rfl) rfl ?_
  refine OS.nil ?_
  repeat refine LS.seq ?_
  refine LS.region rfl ?_
  refine OS.pure rfl (fun _ => rfl) rfl ?_
  refine OS.pure rfl (fun _ => rfl) rfl ?_
  refine OS.pure rfl (fun _ => rfl) rfl ?_
  refine OS.read rfl (e_load 0 rfl rfl rfl rfl rfl) rfl ?_
  refine OS.pure rfl (fun _ => rfl) rfl ?_
  refine OS.pure rfl (fun _ => rfl) rfl ?_
  refine OS.nil ?_
  refine LS.ret ⟨_, fun _ _ => rfl, ?_⟩
  exact ⟨rfl, rfl⟩
theorem left_ct {M : RL} {r : Nat} {v : Value} {f : Bool} {bs : List UInt8} (hv : OV M v bs) : CS Try.prog 62 [.pointer (some ⟨r, 0, none⟩)] ((r, rdRowOf v f) :: M) fun v' L' => v' = .int .i64 (bs.length : Nat) ∧ L' = (r, rdRowOf v f) :: M := by
  refine CS.mk (fn := Try.f62) rfl rfl rfl rfl ?_
  repeat refine LS.seq ?_
  refine LS.region rfl ?_
  refine OS.pure rfl (fun _ => rfl) rfl ?_
  refine OS.nil ?_
  repeat refine LS.seq ?_
  refine LS.region rfl ?_
  refine OS.pure rfl (fun _ => rfl) rfl ?_
  refine OS.pure rfl (fun _ => rfl) rfl ?_
  refine OS.pure rfl (fun _ => rfl) rfl ?_
  refine OS.read rfl (e_load 0 rfl rfl rfl rfl rfl) rfl ?_
  refine OS.pure rfl (e_len hv.sv rfl rfl rfl rfl rfl) rfl ?_
  refine OS.pure rfl (fun _ => rfl) rfl ?_
  refine OS.nil ?_
  refine LS.ret ⟨_, fun _ _ => rfl, ?_⟩
  exact ⟨rfl, rfl⟩
theorem OK_ct {M : RL} {r : Nat} {v : Value} {f : Bool} : CS Try.prog 16 [.pointer (some ⟨r, 0, none⟩)] ((r, rdRowOf v f) :: M) fun v' L' => v' = .bool (!f) ∧ L' = (r, rdRowOf v f) :: M := by
  refine CS.mk (fn := Try.f16) rfl rfl rfl rfl ?_
  repeat refine LS.seq ?_
  refine LS.region rfl ?_
  refine OS.pure rfl (fun _ => rfl) rfl ?_
  refine OS.nil ?_
  repeat refine LS.seq ?_
  refine LS.region rfl ?_
  refine OS.pure rfl (fun _ => rfl) rfl ?_
  refine OS.pure rfl (fun _ => rfl) rfl ?_
  refine OS.pure rfl (fun _ => rfl) rfl ?_
  refine OS.pure rfl (fun _ => rfl) rfl ?_
  refine OS.pure rfl (fun _ => rfl) rfl ?_
  refine OS.pure rfl (fun _ => rfl) rfl ?_
  refine OS.call noGo rfl (fun _ => rfl) ((whole_ct).mono ?_)
  rintro v' L' ⟨rfl, rfl⟩
  refine ⟨_, rfl, ?_⟩
  refine OS.pure rfl (fun _ => rfl) rfl ?_
  refine OS.pure rfl (fun _ => rfl) rfl ?_
  refine OS.nil ?_
  refine LS.ret ⟨_, fun _ _ => rfl, ?_⟩
  exact ⟨rfl, rfl⟩
theorem Left_ct {M : RL} {r : Nat} {v : Value} {f : Bool} {bs : List UInt8} (hv : OV M v bs) : CS Try.prog 18 [.pointer (some ⟨r, 0, none⟩)] ((r, rdRowOf v f) :: M) fun v' L' => v' = .int .i64 (bs.length : Nat) ∧ L' = (r, rdRowOf v f) :: M := by
  refine CS.mk (fn := Try.f18) rfl rfl rfl rfl ?_
  repeat refine LS.seq ?_
  refine LS.region rfl ?_
  refine OS.pure rfl (fun _ => rfl) rfl ?_
  refine OS.nil ?_
  repeat refine LS.seq ?_
  refine LS.region rfl ?_
  refine OS.pure rfl (fun _ => rfl) rfl ?_
  refine OS.pure rfl (fun _ => rfl) rfl ?_
  refine OS.nil ?_
  refine LS.cond rfl (fun hc => by cases hc) (fun hc => ?_)
  refine LS.skip ?_
  repeat refine LS.seq ?_
  refine LS.region rfl ?_
  refine OS.pure rfl (fun _ => rfl) rfl ?_
  refine OS.pure rfl (fun _ => rfl) rfl ?_
  refine OS.pure rfl (fun _ => rfl) rfl ?_
  refine OS.call noGo rfl (fun _ => rfl) ((left_ct hv).mono ?_)
  rintro v' L' ⟨rfl, rfl⟩
  refine ⟨_, rfl, ?_⟩
  refine OS.pure rfl (fun _ => rfl) rfl ?_
  refine OS.nil ?_
  refine LS.ret ⟨_, fun _ _ => rfl, ?_⟩
  exact ⟨rfl, rfl⟩
theorem Done_ct {M : RL} {r : Nat} {v : Value} {f : Bool} {bs : List UInt8} (hv : OV M v bs) : CS Try.prog 20 [.pointer (some ⟨r, 0, none⟩)] ((r, rdRowOf v f) :: M) fun v' L' => v' = .bool (!f && bs.isEmpty) ∧ L' = (r, rdRowOf v f) :: M := by
  refine CS.mk (fn := Try.f20) rfl rfl rfl rfl ?_
  repeat refine LS.seq ?_
  refine LS.region rfl ?_
  refine OS.pure rfl (fun _ => rfl) rfl ?_
  refine OS.nil ?_
  repeat refine LS.seq ?_
  refine LS.region rfl ?_
  refine OS.pure rfl (fun _ => rfl) rfl ?_
  refine OS.call noGo rfl (fun _ => rfl) ((OK_ct).mono ?_)
  rintro v' L' ⟨rfl, rfl⟩
  cases f
  · refine ⟨_, rfl, ?_⟩
    refine OS.pure rfl (fun _ => rfl) rfl ?_
    refine OS.pure rfl (fun _ => rfl) rfl ?_
    refine OS.pure rfl (fun _ => rfl) rfl ?_
    refine OS.pure rfl (fun _ => rfl) rfl ?_
    refine OS.call noGo rfl (fun _ => rfl) ((left_ct hv).mono ?_)
    rintro v' L' ⟨rfl, rfl⟩
    refine ⟨_, rfl, ?_⟩
    refine OS.pure rfl (fun _ => rfl) rfl ?_
    refine OS.pure rfl (fun _ => rfl) rfl ?_
    refine OS.pure rfl (fun _ => rfl) rfl ?_
    refine OS.nil ?_
    refine LS.ret ⟨_, fun _ _ => rfl, ?_⟩
    refine ⟨?_, rfl⟩
    cases bs <;> simp [tupleB, ieqB_eq]
    omega
  · refine ⟨_, rfl, ?_⟩
    refine OS.pure rfl (fun _ => rfl) rfl ?_
    refine OS.skip rfl rfl ?_
    refine OS.skip rfl rfl ?_
    refine OS.skip rfl rfl ?_
    refine OS.skip rfl rfl ?_
    refine OS.skip rfl rfl ?_
    refine OS.pure rfl (fun _ => rfl) rfl ?_
    refine OS.pure rfl (fun _ => rfl) rfl ?_
    refine OS.nil ?_
    refine LS.ret ⟨_, fun _ _ => rfl, ?_⟩
    exact ⟨rfl, rfl⟩

theorem fail_ct {M : RL} {r : Nat} {v : Value} {f : Bool} : CS Try.prog 85 [.pointer (some ⟨r, 0, none⟩)] ((r, rdRowOf v f) :: M) fun v' L' => L' = (r, rdRowOf (.slice none 0 0) true) :: M := by
  refine CS.mk (fn := Try.f85) rfl rfl rfl rfl ?_
  repeat refine LS.seq ?_
  refine LS.region rfl ?_
  refine OS.pure rfl (fun _ => rfl) rfl ?_
  refine OS.pure rfl (fun _ => rfl) rfl ?_
  refine OS.pure rfl (fun _ => rfl) rfl ?_
  refine OS.pure rfl (fun _ => rfl) rfl ?_
  refine OS.write rfl (e_store 0 rfl rfl rfl rfl rfl rfl rfl rfl) rfl ?_
  refine OS.pure rfl (fun _ => rfl) rfl ?_
  refine OS.pure rfl (fun _ => rfl) rfl ?_
  refine OS.write rfl (e_store 0 rfl rfl rfl rfl rfl rfl rfl rfl) rfl ?_
  refine OS.nil ?_
  exact ⟨_, fun _ _ => rfl, rfl⟩
theorem pass_ct {M : RL} {r k : Nat} {v : Value} {f : Bool} {bs : List UInt8} (hv : OV M v bs) (hk : k ≤ bs.length) : CS Try.prog 86 [.pointer (some ⟨r, 0, none⟩), .int .i64 (k : Nat)] ((r, rdRowOf v f) :: M) fun v' L' => RDR M r (bs.drop k, f) L' := by
  refine CS.mk (fn := Try.f86) rfl rfl rfl rfl ?_
  repeat refine LS.seq ?_
  refine LS.region rfl ?_
  refine OS.pure rfl (fun _ => rfl) rfl ?_
  refine OS.pure rfl (fun _ => rfl) rfl ?_
  refine OS.pure rfl (fun _ => rfl) rfl ?_
  refine OS.pure rfl (fun _ => rfl) rfl ?_
  refine OS.read rfl (e_load 0 rfl rfl rfl rfl rfl) rfl ?_
  refine OS.pure rfl (fun _ => rfl) rfl ?_
  refine OS.cutB (l := k) (u := bs.length) hv.cons rfl rfl rfl rfl rfl bound_nat rfl rfl rfl (by omega) hk (fun v' hv' => ?_)
  rw [List.take_of_length_le (by simp)] at hv'
  have hv' : OV M v' (bs.drop k) := hv'.uncons (by decide)
  have hone : allOne v'.cells.toList = true ∧ v'.cells.toList = [v'] := by
    rcases hv' with ⟨rfl, _⟩ | ⟨_, _, _, rfl, _⟩ <;> exact ⟨rfl, rfl⟩
  refine ⟨_, rfl, ?_⟩
  refine OS.pure rfl (fun _ => rfl) rfl ?_
  refine OS.pure rfl (fun _ => rfl) rfl ?_
  refine OS.write rfl (e_store 0 (n := 1) (cs' := [v', .bool f]) rfl rfl rfl rfl rfl (by rw [hone.1, hone.2]; rfl) (by rw [hone.2]; rfl) rfl) rfl ?_
  refine OS.nil ?_
  exact ⟨_, fun _ _ => rfl, v', rfl, hv'⟩

theorem takeNum_ct {M : RL} {r : Nat} {bs : List UInt8} {f : Bool} {v : Value} (hv : OV M v bs) (hn : bs.length ≤ 9223372036854775807) :
    CS Try.prog 72 [.pointer (some ⟨r, 0, none⟩), .func (.func 73) #[] #[]] ((r, rdRowOf v f) :: M) fun v' L' => v' = .int .i64 (tk (0 : Int) (unz (gat bs).1) (gat bs).2 (bs, f)).1 ∧ RDR M r (tk (0 : Int) (unz (gat bs).1) (gat bs).2 (bs, f)).2 L' := by
  have hkl : (gat bs).2 ≤ bs.length := gat_len bs
  refine CS.mk (fn := Try.f72) rfl rfl rfl rfl ?_
  repeat refine LS.seq ?_
  refine LS.region rfl ?_
  refine OS.pure rfl (fun _ => rfl) rfl ?_
  refine OS.nil ?_
  repeat refine LS.seq ?_
  refine LS.region rfl ?_
  refine OS.pure rfl (fun _ => rfl) rfl ?_
  refine OS.nil ?_
  repeat refine LS.seq ?_
  refine LS.region rfl ?_
  refine OS.pure rfl (fun _ => rfl) rfl ?_
  refine OS.call noGo rfl (fun _ => rfl) ((OK_ct).mono ?_)
  rintro v' L' ⟨rfl, rfl⟩
  cases f with
  | true =>
    refine ⟨_, rfl, ?_⟩
    refine OS.pure rfl (fun _ => rfl) rfl ?_
    refine OS.nil ?_
    refine LS.cond rfl (fun hc => ?_) (fun hc => by cases hc)
    repeat refine LS.seq ?_
    refine LS.region rfl ?_
    refine OS.pure rfl (fun _ => rfl) rfl ?_
    refine OS.pure rfl (fun _ => rfl) rfl ?_
    refine OS.nil ?_
    refine LS.ret ⟨_, fun _ _ => rfl, ?_⟩
    exact ⟨rfl, v, rfl, hv⟩
  | false =>
    refine ⟨_, rfl, ?_⟩
    refine OS.pure rfl (fun _ => rfl) rfl ?_
    refine OS.nil ?_
    refine LS.cond rfl (fun hc => by cases hc) (fun hc => ?_)
    refine LS.skip ?_
    repeat refine LS.seq ?_
    refine LS.region rfl ?_
    refine OS.pure rfl (fun _ => rfl) rfl ?_
    refine OS.pure rfl (fun _ => rfl) rfl ?_
    refine OS.pure rfl (fun _ => rfl) rfl ?_
    refine OS.pure rfl (fun _ => rfl) rfl ?_
    refine OS.pure rfl (fun _ => rfl) rfl ?_
    refine OS.read rfl (e_load 0 rfl rfl rfl rfl rfl) rfl ?_
    refine OS.call noGo rfl (fun _ => rfl) ((numAt_ct hv.cons hn).mono ?_)
    rintro v' L' ⟨rfl, rfl⟩
    refine ⟨_, rfl, ?_⟩
    refine OS.pure rfl (fun _ => rfl) rfl ?_
    refine OS.pure rfl (fun _ => rfl) rfl ?_
    refine OS.pure rfl (fun _ => rfl) rfl ?_
    refine OS.pure rfl (fun _ => rfl) rfl ?_
    refine OS.pure rfl (fun _ => rfl) rfl ?_
    refine OS.nil ?_
    by_cases hz : (gat bs).2 = 0
    · have hb1 : ieqB (((gat bs).2 : Nat) : Int) 0 = true := by rw [ieqB_eq]; simp; omega
      repeat refine LS.seq ?_
      refine LS.region rfl ?_
      refine OS.pure rfl (fun _ => rfl) rfl ?_
      refine OS.pure rfl (e_is (fun _ => rfl) (congrArg Value.bool hb1)) rfl ?_
      refine OS.nil ?_
      refine LS.cond rfl (fun hc => ?_) (fun hc => by cases hc)
      repeat refine LS.seq ?_
      refine LS.region rfl ?_
      refine OS.pure rfl (fun _ => rfl) rfl ?_
      refine OS.pure rfl (fun _ => rfl) rfl ?_
      refine OS.pure rfl (fun _ => rfl) rfl ?_
      refine OS.call noGo rfl (fun _ => rfl) ((fail_ct).mono ?_)
      rintro v' L' rfl
      refine ⟨_, rfl, ?_⟩
      refine OS.nil ?_
      repeat refine LS.seq ?_
      refine LS.region rfl ?_
      refine OS.pure rfl (fun _ => rfl) rfl ?_
      refine OS.pure rfl (fun _ => rfl) rfl ?_
      refine OS.nil ?_
      refine LS.ret ⟨_, fun _ _ => rfl, ?_⟩
      rw [hz, tk_none]
      exact ⟨rfl, _, rfl, .inl ⟨rfl, rfl⟩⟩
    · have hb1 : ieqB (((gat bs).2 : Nat) : Int) 0 = false := by rw [ieqB_eq]; simp; omega
      repeat refine LS.seq ?_
      refine LS.region rfl ?_
      refine OS.pure rfl (fun _ => rfl) rfl ?_
      refine OS.pure rfl (e_is (fun _ => rfl) (congrArg Value.bool hb1)) rfl ?_
      refine OS.nil ?_
      refine LS.cond rfl (fun hc => by cases hc) (fun hc => ?_)
      refine LS.skip ?_
      repeat refine LS.seq ?_
      refine LS.region rfl ?_
      refine OS.pure rfl (fun _ => rfl) rfl ?_
      refine OS.pure rfl (fun _ => rfl) rfl ?_
      refine OS.pure rfl (fun _ => rfl) rfl ?_
      refine OS.pure rfl (fun _ => rfl) rfl ?_
      refine OS.call noGo rfl (fun _ => rfl) ((pass_ct (k := (gat bs).2) hv hkl).mono ?_)
      rintro v' L' hr
      refine ⟨_, rfl, ?_⟩
      refine OS.nil ?_
      repeat refine LS.seq ?_
      refine LS.region rfl ?_
      refine OS.pure rfl (fun _ => rfl) rfl ?_
      refine OS.pure rfl (fun _ => rfl) rfl ?_
      refine OS.nil ?_
      refine LS.ret ⟨_, fun _ _ => rfl, ?_⟩
      rw [tk_some hz]
      exact ⟨rfl, hr⟩

theorem takeFlag_ct {M : RL} {r : Nat} {bs : List UInt8} {f : Bool} {v : Value} (hv : OV M v bs) (hn : bs.length ≤ 9223372036854775807) :
    CS Try.prog 80 [.pointer (some ⟨r, 0, none⟩), .func (.func 81) #[] #[]] ((r, rdRowOf v f) :: M) fun v' L' => v' = .bool (tk false (fAt bs).1 (fAt bs).2 (bs, f)).1 ∧ RDR M r (tk false (fAt bs).1 (fAt bs).2 (bs, f)).2 L' := by
  have hkl : (fAt bs).2 ≤ bs.length := fAt_len bs
  refine CS.mk (fn := Try.f80) rfl rfl rfl rfl ?_
  repeat refine LS.seq ?_
  refine LS.region rfl ?_
  refine OS.pure rfl (fun _ => rfl) rfl ?_
  refine OS.nil ?_
  repeat refine LS.seq ?_
  refine LS.region rfl ?_
  refine OS.pure rfl (fun _ => rfl) rfl ?_
  refine OS.nil ?_
  repeat refine LS.seq ?_
  refine LS.region rfl ?_
  refine OS.pure rfl (fun _ => rfl) rfl ?_
  refine OS.call noGo rfl (fun _ => rfl) ((OK_ct).mono ?_)
  rintro v' L' ⟨rfl, rfl⟩
  cases f with
  | true =>
    refine ⟨_, rfl, ?_⟩
    refine OS.pure rfl (fun _ => rfl) rfl ?_
    refine OS.nil ?_
    refine LS.cond rfl (fun hc => ?_) (fun hc => by cases hc)
    repeat refine LS.seq ?_
    refine LS.region rfl ?_
    refine OS.pure rfl (fun _ => rfl) rfl ?_
    refine OS.pure rfl (fun _ => rfl) rfl ?_
    refine OS.nil ?_
    refine LS.ret ⟨_, fun _ _ => rfl, ?_⟩
    exact ⟨rfl, v, rfl, hv⟩
  | false =>
    refine ⟨_, rfl, ?_⟩
    refine OS.pure rfl (fun _ => rfl) rfl ?_
    refine OS.nil ?_
    refine LS.cond rfl (fun hc => by cases hc) (fun hc => ?_)
    refine LS.skip ?_
    repeat refine LS.seq ?_
    refine LS.region rfl ?_
    refine OS.pure rfl (fun _ => rfl) rfl ?_
    refine OS.pure rfl (fun _ => rfl) rfl ?_
    refine OS.pure rfl (fun _ => rfl) rfl ?_
    refine OS.pure rfl (fun _ => rfl) rfl ?_
    refine OS.pure rfl (fun _ => rfl) rfl ?_
    refine OS.read rfl (e_load 0 rfl rfl rfl rfl rfl) rfl ?_
    refine OS.call noGo rfl (fun _ => rfl) ((flagAt_ct hv.cons).mono ?_)
    rintro v' L' ⟨rfl, rfl⟩
    refine ⟨_, rfl, ?_⟩
    refine OS.pure rfl (fun _ => rfl) rfl ?_
    refine OS.pure rfl (fun _ => rfl) rfl ?_
    refine OS.pure rfl (fun _ => rfl) rfl ?_
    refine OS.pure rfl (fun _ => rfl) rfl ?_
    refine OS.pure rfl (fun _ => rfl) rfl ?_
    refine OS.nil ?_
    by_cases hz : (fAt bs).2 = 0
    · have hb1 : ieqB (((fAt bs).2 : Nat) : Int) 0 = true := by rw [ieqB_eq]; simp; omega
      repeat refine LS.seq ?_
      refine LS.region rfl ?_
      refine OS.pure rfl (fun _ => rfl) rfl ?_
      refine OS.pure rfl (e_is (fun _ => rfl) (congrArg Value.bool hb1)) rfl ?_
      refine OS.nil ?_
      refine LS.cond rfl (fun hc => ?_) (fun hc => by cases hc)
      repeat refine LS.seq ?_
      refine LS.region rfl ?_
      refine OS.pure rfl (fun _ => rfl) rfl ?_
      refine OS.pure rfl (fun _ => rfl) rfl ?_
      refine OS.pure rfl (fun _ => rfl) rfl ?_
      refine OS.call noGo rfl (fun _ => rfl) ((fail_ct).mono ?_)
      rintro v' L' rfl
      refine ⟨_, rfl, ?_⟩
      refine OS.nil ?_
      repeat refine LS.seq ?_
      refine LS.region rfl ?_
      refine OS.pure rfl (fun _ => rfl) rfl ?_
      refine OS.pure rfl (fun _ => rfl) rfl ?_
      refine OS.nil ?_
      refine LS.ret ⟨_, fun _ _ => rfl, ?_⟩
      rw [hz, tk_none]
      exact ⟨rfl, _, rfl, .inl ⟨rfl, rfl⟩⟩
    · have hb1 : ieqB (((fAt bs).2 : Nat) : Int) 0 = false := by rw [ieqB_eq]; simp; omega
      repeat refine LS.seq ?_
      refine LS.region rfl ?_
      refine OS.pure rfl (fun _ => rfl) rfl ?_
      refine OS.pure rfl (e_is (fun _ => rfl) (congrArg Value.bool hb1)) rfl ?_
      refine OS.nil ?_
      refine LS.cond rfl (fun hc => by cases hc) (fun hc => ?_)
      refine LS.skip ?_
      repeat refine LS.seq ?_
      refine LS.region rfl ?_
      refine OS.pure rfl (fun _ => rfl) rfl ?_
      refine OS.pure rfl (fun _ => rfl) rfl ?_
      refine OS.pure rfl (fun _ => rfl) rfl ?_
      refine OS.pure rfl (fun _ => rfl) rfl ?_
      refine OS.call noGo rfl (fun _ => rfl) ((pass_ct (k := (fAt bs).2) hv hkl).mono ?_)
      rintro v' L' hr
      refine ⟨_, rfl, ?_⟩
      refine OS.nil ?_
      repeat refine LS.seq ?_
      refine LS.region rfl ?_
      refine OS.pure rfl (fun _ => rfl) rfl ?_
      refine OS.pure rfl (fun _ => rfl) rfl ?_
      refine OS.nil ?_
      refine LS.ret ⟨_, fun _ _ => rfl, ?_⟩
      rw [tk_some hz]
      exact ⟨rfl, hr⟩

theorem Count1_ct {L : RL} {b : Value} {bs : List UInt8} {rm : Nat} {most : Int} (h0 : -9223372036854775808 ≤ most) (h1 : most ≤ 9223372036854775807) (hm : (rm, .cells 3 [.int .i64 most]) ∈ L) (hb : OV L b bs) (hn : bs.length ≤ 9223372036854775807) :
    CS Try.prog 75 [b, .pointer (some ⟨rm, 0, none⟩)] L fun v L' => v = .tuple #[.int .i64 ((cAt bs most).1 : Nat), .int .i64 ((cAt bs most).2 : Nat)] ∧ L' = L := by
  refine CS.mk (fn := Try.f75) rfl rfl rfl rfl ?_
  repeat refine LS.seq ?_
  refine LS.region rfl ?_
  refine OS.pure rfl (fun _ => rfl) rfl ?_
  refine OS.pure rfl (fun _ => rfl) rfl ?_
  refine OS.nil ?_
  repeat refine LS.seq ?_
  refine LS.region rfl ?_
  refine OS.pure rfl (fun _ => rfl) rfl ?_
  refine OS.read rfl (e_loadm hm rfl rfl rfl (part_one rfl rfl)) rfl ?_
  refine OS.call noGo rfl (fun _ => rfl) ((countAt_ct most h0 h1 hb hn).mono ?_)
  rintro v L' ⟨rfl, rfl⟩
  refine ⟨_, rfl, ?_⟩
  refine OS.pure rfl (fun _ => rfl) rfl ?_
  refine OS.pure rfl (fun _ => rfl) rfl ?_
  refine OS.pure rfl (fun _ => rfl) rfl ?_
  refine OS.pure rfl (fun _ => rfl) rfl ?_
  refine OS.nil ?_
  refine LS.ret ⟨_, fun _ _ => rfl, ?_⟩
  exact ⟨rfl, rfl⟩

theorem Str1_ct {L : RL} {b : Value} {bs : List UInt8} {rm : Nat} {most : Int} (h0 : -9223372036854775808 ≤ most) (h1 : most ≤ 9223372036854775807) (hm : (rm, .cells 3 [.int .i64 most]) ∈ L) (hb : OV L b bs) (hn : bs.length ≤ 9223372036854775807) :
    CS Try.prog 78 [b, .pointer (some ⟨rm, 0, none⟩)] L fun v L' => v = .tuple #[.string ⟨⟨(sAt bs most).1⟩⟩, .int .i64 ((sAt bs most).2 : Nat)] ∧ L' = L := by
  refine CS.mk (fn := Try.f78) rfl rfl rfl rfl ?_
  repeat refine LS.seq ?_
  refine LS.region rfl ?_
  refine OS.pure rfl (fun _ => rfl) rfl ?_
  refine OS.pure rfl (fun _ => rfl) rfl ?_
  refine OS.nil ?_
  repeat refine LS.seq ?_
  refine LS.region rfl ?_
  refine OS.pure rfl (fun _ => rfl) rfl ?_
  refine OS.read rfl (e_loadm hm rfl rfl rfl (part_one rfl rfl)) rfl ?_
  refine OS.call noGo rfl (fun _ => rfl) ((strAt_ct most h0 h1 hb hn).mono ?_)
  rintro v L' ⟨rfl, rfl⟩
  refine ⟨_, rfl, ?_⟩
  refine OS.pure rfl (fun _ => rfl) rfl ?_
  refine OS.pure rfl (fun _ => rfl) rfl ?_
  refine OS.pure rfl (fun _ => rfl) rfl ?_
  refine OS.pure rfl (fun _ => rfl) rfl ?_
  refine OS.nil ?_
  refine LS.ret ⟨_, fun _ _ => rfl, ?_⟩
  exact ⟨rfl, rfl⟩

theorem takeCount_ct {M : RL} {r : Nat} {bs : List UInt8} {f : Bool} {v : Value} {rm : Nat} {most : Int} (h0 : -9223372036854775808 ≤ most) (h1 : most ≤ 9223372036854775807) (hm : (rm, .cells 3 [.int .i64 most]) ∈ M) (hv : OV M v bs) (hn : bs.length ≤ 9223372036854775807) :
    CS Try.prog 74 [.pointer (some ⟨r, 0, none⟩), .func (.func 75) #[] #[.pointer (some ⟨rm, 0, none⟩)]] ((r, rdRowOf v f) :: M) fun v' L' => v' = .int .i64 (tk (0 : Int) ((cAt bs most).1 : Int) (cAt bs most).2 (bs, f)).1 ∧ RDR M r (tk (0 : Int) ((cAt bs most).1 : Int) (cAt bs most).2 (bs, f)).2 L' := by
  have hkl : (cAt bs most).2 ≤ bs.length := (cAt_le bs most).2.2
  refine CS.mk (fn := Try.f74) rfl rfl rfl rfl ?_
  repeat refine LS.seq ?_
  refine LS.region rfl ?_
  refine OS.pure rfl (fun _ => rfl) rfl ?_
  refine OS.nil ?_
  repeat refine LS.seq ?_
  refine LS.region rfl ?_
  refine OS.pure rfl (fun _ => rfl) rfl ?_
  refine OS.nil ?_
  repeat refine LS.seq ?_
  refine LS.region rfl ?_
  refine OS.pure rfl (fun _ => rfl) rfl ?_
  refine OS.call noGo rfl (fun _ => rfl) ((OK_ct).mono ?_)
  rintro v' L' ⟨rfl, rfl⟩
  cases f with
  | true =>
    refine ⟨_, rfl, ?_⟩
    refine OS.pure rfl (fun _ => rfl) rfl ?_
    refine OS.nil ?_
    refine LS.cond rfl (fun hc => ?_) (fun hc => by cases hc)
    repeat refine LS.seq ?_
    refine LS.region rfl ?_
    refine OS.pure rfl (fun _ => rfl) rfl ?_
    refine OS.pure rfl (fun _ => rfl) rfl ?_
    refine OS.nil ?_
    refine LS.ret ⟨_, fun _ _ => rfl, ?_⟩
    exact ⟨rfl, v, rfl, hv⟩
  | false =>
    refine ⟨_, rfl, ?_⟩
    refine OS.pure rfl (fun _ => rfl) rfl ?_
    refine OS.nil ?_
    refine LS.cond rfl (fun hc => by cases hc) (fun hc => ?_)
    refine LS.skip ?_
    repeat refine LS.seq ?_
    refine LS.region rfl ?_
    refine OS.pure rfl (fun _ => rfl) rfl ?_
    refine OS.pure rfl (fun _ => rfl) rfl ?_
    refine OS.pure rfl (fun _ => rfl) rfl ?_
    refine OS.pure rfl (fun _ => rfl) rfl ?_
    refine OS.pure rfl (fun _ => rfl) rfl ?_
    refine OS.read rfl (e_load 0 rfl rfl rfl rfl rfl) rfl ?_
    refine OS.call noGo rfl (fun _ => rfl) ((Count1_ct h0 h1 (List.mem_cons_of_mem _ hm) hv.cons hn).mono ?_)
    rintro v' L' ⟨rfl, rfl⟩
    refine ⟨_, rfl, ?_⟩
    refine OS.pure rfl (fun _ => rfl) rfl ?_
    refine OS.pure rfl (fun _ => rfl) rfl ?_
    refine OS.pure rfl (fun _ => rfl) rfl ?_
    refine OS.pure rfl (fun _ => rfl) rfl ?_
    refine OS.pure rfl (fun _ => rfl) rfl ?_
    refine OS.nil ?_
    by_cases hz : (cAt bs most).2 = 0
    · have hb1 : ieqB (((cAt bs most).2 : Nat) : Int) 0 = true := by rw [ieqB_eq]; simp; omega
      repeat refine LS.seq ?_
      refine LS.region rfl ?_
      refine OS.pure rfl (fun _ => rfl) rfl ?_
      refine OS.pure rfl (e_is (fun _ => rfl) (congrArg Value.bool hb1)) rfl ?_
      refine OS.nil ?_
      refine LS.cond rfl (fun hc => ?_) (fun hc => by cases hc)
      repeat refine LS.seq ?_
      refine LS.region rfl ?_
      refine OS.pure rfl (fun _ => rfl) rfl ?_
      refine OS.pure rfl (fun _ => rfl) rfl ?_
      refine OS.pure rfl (fun _ => rfl) rfl ?_
      refine OS.call noGo rfl (fun _ => rfl) ((fail_ct).mono ?_)
      rintro v' L' rfl
      refine ⟨_, rfl, ?_⟩
      refine OS.nil ?_
      repeat refine LS.seq ?_
      refine LS.region rfl ?_
      refine OS.pure rfl (fun _ => rfl) rfl ?_
      refine OS.pure rfl (fun _ => rfl) rfl ?_
      refine OS.nil ?_
      refine LS.ret ⟨_, fun _ _ => rfl, ?_⟩
      rw [hz, tk_none]
      exact ⟨rfl, _, rfl, .inl ⟨rfl, rfl⟩⟩
    · have hb1 : ieqB (((cAt bs most).2 : Nat) : Int) 0 = false := by rw [ieqB_eq]; simp; omega
      repeat refine LS.seq ?_
      refine LS.region rfl ?_
      refine OS.pure rfl (fun _ => rfl) rfl ?_
      refine OS.pure rfl (e_is (fun _ => rfl) (congrArg Value.bool hb1)) rfl ?_
      refine OS.nil ?_
      refine LS.cond rfl (fun hc => by cases hc) (fun hc => ?_)
      refine LS.skip ?_
      repeat refine LS.seq ?_
      refine LS.region rfl ?_
      refine OS.pure rfl (fun _ => rfl) rfl ?_
      refine OS.pure rfl (fun _ => rfl) rfl ?_
      refine OS.pure rfl (fun _ => rfl) rfl ?_
      refine OS.pure rfl (fun _ => rfl) rfl ?_
      refine OS.call noGo rfl (fun _ => rfl) ((pass_ct (k := (cAt bs most).2) hv hkl).mono ?_)
      rintro v' L' hr
      refine ⟨_, rfl, ?_⟩
      refine OS.nil ?_
      repeat refine LS.seq ?_
      refine LS.region rfl ?_
      refine OS.pure rfl (fun _ => rfl) rfl ?_
      refine OS.pure rfl (fun _ => rfl) rfl ?_
      refine OS.nil ?_
      refine LS.ret ⟨_, fun _ _ => rfl, ?_⟩
      rw [tk_some hz]
      exact ⟨rfl, hr⟩

theorem takeStr_ct {M : RL} {r : Nat} {bs : List UInt8} {f : Bool} {v : Value} {rm : Nat} {most : Int} (h0 : -9223372036854775808 ≤ most) (h1 : most ≤ 9223372036854775807) (hm : (rm, .cells 3 [.int .i64 most]) ∈ M) (hv : OV M v bs) (hn : bs.length ≤ 9223372036854775807) :
    CS Try.prog 77 [.pointer (some ⟨r, 0, none⟩), .func (.func 78) #[] #[.pointer (some ⟨rm, 0, none⟩)]] ((r, rdRowOf v f) :: M) fun v' L' => v' = txt (tk ([] : List UInt8) (sAt bs most).1 (sAt bs most).2 (bs, f)).1 ∧ RDR M r (tk ([] : List UInt8) (sAt bs most).1 (sAt bs most).2 (bs, f)).2 L' := by
  have hkl : (sAt bs most).2 ≤ bs.length := sAt_len bs most
  refine CS.mk (fn := Try.f77) rfl rfl rfl rfl ?_
  repeat refine LS.seq ?_
  refine LS.region rfl ?_
  refine OS.pure rfl (fun _ => rfl) rfl ?_
  refine OS.nil ?_
  repeat refine LS.seq ?_
  refine LS.region rfl ?_
  refine OS.pure rfl (fun _ => rfl) rfl ?_
  refine OS.nil ?_
  repeat refine LS.seq ?_
  refine LS.region rfl ?_
  refine OS.pure rfl (fun _ => rfl) rfl ?_
  refine OS.call noGo rfl (fun _ => rfl) ((OK_ct).mono ?_)
  rintro v' L' ⟨rfl, rfl⟩
  cases f with
  | true =>
    refine ⟨_, rfl, ?_⟩
    refine OS.pure rfl (fun _ => rfl) rfl ?_
    refine OS.nil ?_
    refine LS.cond rfl (fun hc => ?_) (fun hc => by cases hc)
    repeat refine LS.seq ?_
    refine LS.region rfl ?_
    refine OS.pure rfl (fun _ => rfl) rfl ?_
    refine OS.pure rfl (fun _ => rfl) rfl ?_
    refine OS.nil ?_
    refine LS.ret ⟨_, fun _ _ => rfl, ?_⟩
    exact ⟨rfl, v, rfl, hv⟩
  | false =>
    refine ⟨_, rfl, ?_⟩
    refine OS.pure rfl (fun _ => rfl) rfl ?_
    refine OS.nil ?_
    refine LS.cond rfl (fun hc => by cases hc) (fun hc => ?_)
    refine LS.skip ?_
    repeat refine LS.seq ?_
    refine LS.region rfl ?_
    refine OS.pure rfl (fun _ => rfl) rfl ?_
    refine OS.pure rfl (fun _ => rfl) rfl ?_
    refine OS.pure rfl (fun _ => rfl) rfl ?_
    refine OS.pure rfl (fun _ => rfl) rfl ?_
    refine OS.pure rfl (fun _ => rfl) rfl ?_
    refine OS.read rfl (e_load 0 rfl rfl rfl rfl rfl) rfl ?_
    refine OS.call noGo rfl (fun _ => rfl) ((Str1_ct h0 h1 (List.mem_cons_of_mem _ hm) hv.cons hn).mono ?_)
    rintro v' L' ⟨rfl, rfl⟩
    refine ⟨_, rfl, ?_⟩
    refine OS.pure rfl (fun _ => rfl) rfl ?_
    refine OS.pure rfl (fun _ => rfl) rfl ?_
    refine OS.pure rfl (fun _ => rfl) rfl ?_
    refine OS.pure rfl (fun _ => rfl) rfl ?_
    refine OS.pure rfl (fun _ => rfl) rfl ?_
    refine OS.nil ?_
    by_cases hz : (sAt bs most).2 = 0
    · have hb1 : ieqB (((sAt bs most).2 : Nat) : Int) 0 = true := by rw [ieqB_eq]; simp; omega
      repeat refine LS.seq ?_
      refine LS.region rfl ?_
      refine OS.pure rfl (fun _ => rfl) rfl ?_
      refine OS.pure rfl (e_is (fun _ => rfl) (congrArg Value.bool hb1)) rfl ?_
      refine OS.nil ?_
      refine LS.cond rfl (fun hc => ?_) (fun hc => by cases hc)
      repeat refine LS.seq ?_
      refine LS.region rfl ?_
      refine OS.pure rfl (fun _ => rfl) rfl ?_
      refine OS.pure rfl (fun _ => rfl) rfl ?_
      refine OS.pure rfl (fun _ => rfl) rfl ?_
      refine OS.call noGo rfl (fun _ => rfl) ((fail_ct).mono ?_)
      rintro v' L' rfl
      refine ⟨_, rfl, ?_⟩
      refine OS.nil ?_
      repeat refine LS.seq ?_
      refine LS.region rfl ?_
      refine OS.pure rfl (fun _ => rfl) rfl ?_
      refine OS.pure rfl (fun _ => rfl) rfl ?_
      refine OS.nil ?_
      refine LS.ret ⟨_, fun _ _ => rfl, ?_⟩
      rw [hz, tk_none]
      exact ⟨rfl, _, rfl, .inl ⟨rfl, rfl⟩⟩
    · have hb1 : ieqB (((sAt bs most).2 : Nat) : Int) 0 = false := by rw [ieqB_eq]; simp; omega
      repeat refine LS.seq ?_
      refine LS.region rfl ?_
      refine OS.pure rfl (fun _ => rfl) rfl ?_
      refine OS.pure rfl (e_is (fun _ => rfl) (congrArg Value.bool hb1)) rfl ?_
      refine OS.nil ?_
      refine LS.cond rfl (fun hc => by cases hc) (fun hc => ?_)
      refine LS.skip ?_
      repeat refine LS.seq ?_
      refine LS.region rfl ?_
      refine OS.pure rfl (fun _ => rfl) rfl ?_
      refine OS.pure rfl (fun _ => rfl) rfl ?_
      refine OS.pure rfl (fun _ => rfl) rfl ?_
      refine OS.pure rfl (fun _ => rfl) rfl ?_
      refine OS.call noGo rfl (fun _ => rfl) ((pass_ct (k := (sAt bs most).2) hv hkl).mono ?_)
      rintro v' L' hr
      refine ⟨_, rfl, ?_⟩
      refine OS.nil ?_
      repeat refine LS.seq ?_
      refine LS.region rfl ?_
      refine OS.pure rfl (fun _ => rfl) rfl ?_
      refine OS.pure rfl (fun _ => rfl) rfl ?_
      refine OS.nil ?_
      refine LS.ret ⟨_, fun _ _ => rfl, ?_⟩
      rw [tk_some hz]
      exact ⟨rfl, hr⟩

theorem RNum_ct {M : RL} {r : Nat} {bs : List UInt8} {f : Bool} {v : Value} (hv : OV M v bs) (hn : bs.length ≤ 9223372036854775807) :
    CS Try.prog 53 [.pointer (some ⟨r, 0, none⟩)] ((r, rdRowOf v f) :: M) fun v' L' => v' = .int .i64 (tk (0 : Int) (unz (gat bs).1) (gat bs).2 (bs, f)).1 ∧ RDR M r (tk (0 : Int) (unz (gat bs).1) (gat bs).2 (bs, f)).2 L' := by
  refine CS.mk (fn := Try.f53) rfl rfl rfl rfl ?_
  repeat refine LS.seq ?_
  refine LS.region rfl ?_
  refine OS.pure rfl (fun _ => rfl) rfl ?_
  refine OS.nil ?_
  repeat refine LS.seq ?_
  refine LS.region rfl ?_
  refine OS.pure rfl (fun _ => rfl) rfl ?_
  refine OS.call noGo rfl (fun _ => rfl) ((takeNum_ct hv hn).mono ?_)
  rintro v' L' ⟨rfl, hr⟩
  refine ⟨_, rfl, ?_⟩
  refine OS.pure rfl (fun _ => rfl) rfl ?_
  refine OS.nil ?_
  refine LS.ret ⟨_, fun _ _ => rfl, ?_⟩
  exact ⟨rfl, hr⟩

theorem RFlag_ct {M : RL} {r : Nat} {bs : List UInt8} {f : Bool} {v : Value} (hv : OV M v bs) (hn : bs.length ≤ 9223372036854775807) :
    CS Try.prog 56 [.pointer (some ⟨r, 0, none⟩)] ((r, rdRowOf v f) :: M) fun v' L' => v' = .bool (tk false (fAt bs).1 (fAt bs).2 (bs, f)).1 ∧ RDR M r (tk false (fAt bs).1 (fAt bs).2 (bs, f)).2 L' := by
  refine CS.mk (fn := Try.f56) rfl rfl rfl rfl ?_
  repeat refine LS.seq ?_
  refine LS.region rfl ?_
  refine OS.pure rfl (fun _ => rfl) rfl ?_
  refine OS.nil ?_
  repeat refine LS.seq ?_
  refine LS.region rfl ?_
  refine OS.pure rfl (fun _ => rfl) rfl ?_
  refine OS.call noGo rfl (fun _ => rfl) ((takeFlag_ct hv hn).mono ?_)
  rintro v' L' ⟨rfl, hr⟩
  refine ⟨_, rfl, ?_⟩
  refine OS.pure rfl (fun _ => rfl) rfl ?_
  refine OS.nil ?_
  refine LS.ret ⟨_, fun _ _ => rfl, ?_⟩
  exact ⟨rfl, hr⟩

theorem RCount_ct {M : RL} {r : Nat} {bs : List UInt8} {f : Bool} {v : Value} {most : Int} (h0 : -9223372036854775808 ≤ most) (h1 : most ≤ 9223372036854775807) (hv : OV M v bs) (hn : bs.length ≤ 9223372036854775807) :
    CS Try.prog 54 [.pointer (some ⟨r, 0, none⟩), .int .i64 most] ((r, rdRowOf v f) :: M) fun v' L' => v' = .int .i64 (tk (0 : Int) ((cAt bs most).1 : Int) (cAt bs most).2 (bs, f)).1 ∧ RDR M r (tk (0 : Int) ((cAt bs most).1 : Int) (cAt bs most).2 (bs, f)).2 L' := by
  refine CS.mk (fn := Try.f54) rfl rfl rfl rfl ?_
  repeat refine LS.seq ?_
  refine LS.region rfl ?_
  refine OS.fresh rfl (e_new (fun _ => rfl) rfl) (fun _ => rfl) (fun rm => ?_)
  refine OS.pure rfl (fun _ => rfl) rfl ?_
  refine OS.nil ?_
  repeat refine LS.seq ?_
  refine LS.region rfl ?_
  refine OS.pure rfl (fun _ => rfl) rfl ?_
  refine OS.pure rfl (fun _ => rfl) rfl ?_
  refine OS.sub (Sub.pulls [1] rfl) ?_
  refine OS.call noGo rfl (fun _ => rfl) ((takeCount_ct (rm := rm) h0 h1 (List.mem_cons_self ..) hv.cons hn).mono ?_)
  rintro v' L' ⟨rfl, v2, rfl, hr⟩
  refine ⟨_, rfl, ?_⟩
  refine OS.pure rfl (fun _ => rfl) rfl ?_
  refine OS.sub (Sub.drop 1 rfl) ?_
  refine OS.nil ?_
  refine LS.ret ⟨_, fun _ _ => rfl, ?_⟩
  exact ⟨rfl, v2, rfl, hr.uncons (by decide)⟩

theorem RStr_ct {M : RL} {r : Nat} {bs : List UInt8} {f : Bool} {v : Value} {most : Int} (h0 : -9223372036854775808 ≤ most) (h1 : most ≤ 9223372036854775807) (hv : OV M v bs) (hn : bs.length ≤ 9223372036854775807) :
    CS Try.prog 55 [.pointer (some ⟨r, 0, none⟩), .int .i64 most] ((r, rdRowOf v f) :: M) fun v' L' => v' = txt (tk ([] : List UInt8) (sAt bs most).1 (sAt bs most).2 (bs, f)).1 ∧ RDR M r (tk ([] : List UInt8) (sAt bs most).1 (sAt bs most).2 (bs, f)).2 L' := by
  refine CS.mk (fn := Try.f55) rfl rfl rfl rfl ?_
  repeat refine LS.seq ?_
  refine LS.region rfl ?_
  refine OS.fresh rfl (e_new (fun _ => rfl) rfl) (fun _ => rfl) (fun rm => ?_)
  refine OS.pure rfl (fun _ => rfl) rfl ?_
  refine OS.nil ?_
  repeat refine LS.seq ?_
  refine LS.region rfl ?_
  refine OS.pure rfl (fun _ => rfl) rfl ?_
  refine OS.pure rfl (fun _ => rfl) rfl ?_
  refine OS.sub (Sub.pulls [1] rfl) ?_
  refine OS.call noGo rfl (fun _ => rfl) ((takeStr_ct (rm := rm) h0 h1 (List.mem_cons_self ..) hv.cons hn).mono ?_)
  rintro v' L' ⟨rfl, v2, rfl, hr⟩
  refine ⟨_, rfl, ?_⟩
  refine OS.pure rfl (fun _ => rfl) rfl ?_
  refine OS.sub (Sub.drop 1 rfl) ?_
  refine OS.nil ?_
  refine LS.ret ⟨_, fun _ _ => rfl, ?_⟩
  exact ⟨rfl, v2, rfl, hr.uncons (by decide)⟩

theorem NewReader_ct {L : RL} {b : Value} {bs : List UInt8} (hb : SV 1 L b bs.length (byteCells bs)) (hn : bs.length ≤ 400000000000) :
    CS Try.prog 12 [b] L fun v L' => ∃ r rb, v = .pointer (some ⟨r, 0, none⟩) ∧ RDR ((rb, .cells 5 (byteCells bs)) :: L) r (bs, false) L' := by
  refine CS.mk (fn := Try.f12) rfl rfl rfl rfl ?_
  repeat refine LS.seq ?_
  refine LS.region rfl ?_
  refine OS.pure rfl (fun _ => rfl) rfl ?_
  refine OS.nil ?_
  repeat refine LS.seq ?_
  refine LS.region rfl ?_
  refine OS.pure rfl (fun _ => rfl) rfl ?_
  refine OS.call noGo rfl (fun _ => rfl) ((own_ct (room := 0) hb hn (by omega)).mono ?_)
  rintro v L' ⟨rb, rfl, rfl⟩
  refine ⟨_, rfl, ?_⟩
  refine OS.pure rfl (fun _ => rfl) rfl ?_
  refine OS.pure rfl (fun _ => rfl) rfl ?_
  refine OS.fresh rfl (e_new (fun _ => rfl) rfl) (fun _ => rfl) (fun r => ?_)
  refine OS.pure rfl (fun _ => rfl) rfl ?_
  refine OS.nil ?_
  refine LS.ret ⟨_, fun _ _ => rfl, ?_⟩
  exact ⟨r, rb, rfl, _, rfl, .inr ⟨rb, 0, byteCells bs, rfl, List.mem_cons_self .., cut_all (byteCells_len bs)⟩⟩

theorem one_ct {L : RL} (b : Bool) : CS Try.prog 23 [.bool b] L fun v L' => v = .int .i64 (if b then 1 else 0) ∧ L' = L := by
  cases b
  · refine CS.mk (fn := Try.f23) rfl rfl rfl rfl ?_
    repeat refine LS.seq ?_
    refine LS.region rfl ?_
    refine OS.pure rfl (fun _ => rfl) rfl ?_
    refine OS.nil ?_
    repeat refine LS.seq ?_
    refine LS.region rfl ?_
    refine OS.pure rfl (fun _ => rfl) rfl ?_
    refine OS.nil ?_
    refine LS.cond rfl (fun hc => by cases hc) (fun hc => ?_)
    refine LS.skip ?_
    repeat refine LS.seq ?_
    refine LS.region rfl ?_
    refine OS.pure rfl (fun _ => rfl) rfl ?_
    refine OS.nil ?_
    refine LS.ret ⟨_, fun _ _ => rfl, ?_⟩
    exact ⟨rfl, rfl⟩
  · refine CS.mk (fn := Try.f23) rfl rfl rfl rfl ?_
    repeat refine LS.seq ?_
    refine LS.region rfl ?_
    refine OS.pure rfl (fun _ => rfl) rfl ?_
    refine OS.nil ?_
    repeat refine LS.seq ?_
    refine LS.region rfl ?_
    refine OS.pure rfl (fun _ => rfl) rfl ?_
    refine OS.nil ?_
    refine LS.cond rfl (fun hc => ?_) (fun hc => by cases hc)
    repeat refine LS.seq ?_
    refine LS.region rfl ?_
    refine OS.pure rfl (fun _ => rfl) rfl ?_
    refine OS.nil ?_
    refine LS.ret ⟨_, fun _ _ => rfl, ?_⟩
    exact ⟨rfl, rfl⟩

/-- What a reader tells, asked for a thing, and where it stands then: a number, a text. -/
def askS (t : Th) (s : St) : (Int × List UInt8) × St :=
  if t.k = 0 then let p := tk (0 : Int) (unz (gat s.1).1) (gat s.1).2 s; ((p.1, []), p.2)
  else if t.k = 1 then let p := tk (0 : Int) ((cAt s.1 t.n).1 : Int) (cAt s.1 t.n).2 s; ((p.1, []), p.2)
  else if t.k = 2 then let p := tk ([] : List UInt8) (sAt s.1 t.n).1 (sAt s.1 t.n).2 s; ((0, p.1), p.2)
  else let p := tk false (fAt s.1).1 (fAt s.1).2 s; ((if p.1 then 1 else 0, []), p.2)
def toldV (p : Int × List UInt8) : Value := .agg #[.int .i64 p.1, .string ⟨⟨p.2⟩⟩]

theorem ask_ct {M : RL} {r : Nat} {bs : List UInt8} {f : Bool} {v : Value} (t : Th) (ht : t.ok) (hv : OV M v bs) (hn : bs.length ≤ 9223372036854775807) :
    CS Try.prog 14 [t.val, .pointer (some ⟨r, 0, none⟩)] ((r, rdRowOf v f) :: M) fun v' L' => v' = toldV (askS t (bs, f)).1 ∧ RDR M r (askS t (bs, f)).2 L' := by
  refine CS.less (R := fun v' L' => v' = toldV (askS t (bs, f)).1 ∧ ∃ r4 c4 r0 c0, RDR ((r4, .cells 36 c4) :: (r0, .cells 28 c0) :: M) r (askS t (bs, f)).2 L') ?_ ?_
  rotate_left
  · rintro v' L' ⟨rfl, r4, c4, r0, c0, v2, rfl, hr⟩
    exact ⟨_, Sub.two, rfl, v2, rfl, (hr.uncons (by decide)).uncons (by decide)⟩
  obtain ⟨k, m, s⟩ := t
  obtain ⟨h0, h1, _⟩ := ht
  simp only at h0 h1
  simp only [Th.val, askS]
  have hne : ∀ j : Nat, j < 256 → k ≠ UInt8.ofNat j → ieqB (k.toNat : Int) j = false := fun j hj hne => by
    rw [ieqB_eq]
    have : k.toNat ≠ j := fun hh => hne (by rw [← hh]; simp)
    simpa using (show ¬ ((k.toNat : Int) = j) by omega)
  refine CS.mk (fn := Try.f14) rfl rfl rfl rfl ?_
  repeat refine LS.seq ?_
  refine LS.region rfl ?_
  refine OS.fresh rfl (e_new (fun _ => rfl) rfl) (fun _ => rfl) (fun r0 => ?_)
  refine OS.fresh rfl (e_new (fun _ => rfl) rfl) (fun _ => rfl) (fun r4 => ?_)
  refine OS.nil ?_
  repeat refine LS.seq ?_
  refine LS.region rfl ?_
  refine OS.pure rfl (fun _ => rfl) rfl ?_
  refine OS.read rfl (e_load 1 rfl rfl rfl rfl rfl) rfl ?_
  refine OS.nil ?_
  repeat refine LS.seq ?_
  refine LS.block ?_
  by_cases hk0 : k = 0
  · subst hk0
    repeat refine LS.seq ?_
    refine LS.region rfl ?_
    refine OS.pure rfl (fun _ => rfl) rfl ?_
    refine OS.pure rfl (fun _ => rfl) rfl ?_
    refine OS.nil ?_
    refine LS.cond rfl (fun h => ?_) (fun h => by cases h)
    repeat refine LS.seq ?_
    refine LS.region rfl ?_
    refine OS.pure rfl (fun _ => rfl) rfl ?_
    refine OS.sub (Sub.pulls [2] rfl) ?_
    refine OS.call noGo rfl (fun _ => rfl) ((RNum_ct hv.cons.cons hn).mono ?_)
    rintro v' L' ⟨rfl, v2, rfl, hr⟩
    refine ⟨_, rfl, ?_⟩
    refine OS.pure rfl (fun _ => rfl) rfl ?_
    refine OS.write rfl (e_store 1 rfl rfl rfl rfl rfl rfl rfl rfl) rfl ?_
    refine OS.nil ?_
    refine LS.ret ⟨_, res_cell 1 rfl rfl rfl rfl, ?_⟩
    rw [if_pos rfl]
    exact ⟨rfl, r4, _, r0, _, v2, rfl, ((hr.uncons (by decide)).uncons (by decide)).cons.cons⟩
  repeat refine LS.seq ?_
  refine LS.region rfl ?_
  refine OS.pure rfl (e_is (fun _ => rfl) (congrArg Value.bool (hne 0 (by omega) hk0))) rfl ?_
  refine OS.pure rfl (fun _ => rfl) rfl ?_
  refine OS.nil ?_
  refine LS.cond rfl (fun h => by cases h) (fun h => ?_)
  rw [if_neg hk0]
  by_cases hk1 : k = 1
  · subst hk1
    repeat refine LS.seq ?_
    refine LS.region rfl ?_
    refine OS.pure rfl (fun _ => rfl) rfl ?_
    refine OS.pure rfl (fun _ => rfl) rfl ?_
    refine OS.nil ?_
    refine LS.cond rfl (fun h => ?_) (fun h => by cases h)
    repeat refine LS.seq ?_
    refine LS.region rfl ?_
    refine OS.pure rfl (fun _ => rfl) rfl ?_
    refine OS.pure rfl (fun _ => rfl) rfl ?_
    refine OS.read rfl (e_load 1 rfl rfl rfl rfl rfl) rfl ?_
    refine OS.sub (Sub.pulls [2] rfl) ?_
    refine OS.call noGo rfl (fun _ => rfl) ((RCount_ct (most := m) h0 h1 hv.cons.cons hn).mono ?_)
    rintro v' L' ⟨rfl, v2, rfl, hr⟩
    refine ⟨_, rfl, ?_⟩
    refine OS.pure rfl (fun _ => rfl) rfl ?_
    refine OS.write rfl (e_store 1 rfl rfl rfl rfl rfl rfl rfl rfl) rfl ?_
    refine OS.nil ?_
    refine LS.ret ⟨_, res_cell 1 rfl rfl rfl rfl, ?_⟩
    rw [if_pos rfl]
    exact ⟨rfl, r4, _, r0, _, v2, rfl, ((hr.uncons (by decide)).uncons (by decide)).cons.cons⟩
  repeat refine LS.seq ?_
  refine LS.region rfl ?_
  refine OS.pure rfl (e_is (fun _ => rfl) (congrArg Value.bool (hne 1 (by omega) hk1))) rfl ?_
  refine OS.pure rfl (fun _ => rfl) rfl ?_
  refine OS.nil ?_
  refine LS.cond rfl (fun h => by cases h) (fun h => ?_)
  rw [if_neg hk1]
  by_cases hk2 : k = 2
  · subst hk2
    repeat refine LS.seq ?_
    refine LS.region rfl ?_
    refine OS.pure rfl (fun _ => rfl) rfl ?_
    refine OS.pure rfl (fun _ => rfl) rfl ?_
    refine OS.nil ?_
    refine LS.cond rfl (fun h => ?_) (fun h => by cases h)
    repeat refine LS.seq ?_
    refine LS.region rfl ?_
    refine OS.pure rfl (fun _ => rfl) rfl ?_
    refine OS.pure rfl (fun _ => rfl) rfl ?_
    refine OS.read rfl (e_load 1 rfl rfl rfl rfl rfl) rfl ?_
    refine OS.sub (Sub.pulls [2] rfl) ?_
    refine OS.call noGo rfl (fun _ => rfl) ((RStr_ct (most := m) h0 h1 hv.cons.cons hn).mono ?_)
    rintro v' L' ⟨rfl, v2, rfl, hr⟩
    refine ⟨_, rfl, ?_⟩
    refine OS.pure rfl (fun _ => rfl) rfl ?_
    refine OS.write rfl (e_store 1 rfl rfl rfl rfl rfl rfl rfl rfl) rfl ?_
    refine OS.nil ?_
    refine LS.ret ⟨_, res_cell 1 rfl rfl rfl rfl, ?_⟩
    rw [if_pos rfl]
    exact ⟨rfl, r4, _, r0, _, v2, rfl, ((hr.uncons (by decide)).uncons (by decide)).cons.cons⟩
  repeat refine LS.seq ?_
  refine LS.region rfl ?_
  refine OS.pure rfl (e_is (fun _ => rfl) (congrArg Value.bool (hne 2 (by omega) hk2))) rfl ?_
  refine OS.pure rfl (fun _ => rfl) rfl ?_
  refine OS.nil ?_
  refine LS.cond rfl (fun h => by cases h) (fun h => ?_)
  rw [if_neg hk2]
  refine LS.skip ?_
  repeat refine LS.seq ?_
  refine LS.region rfl ?_
  refine OS.pure rfl (fun _ => rfl) rfl ?_
  refine OS.sub (Sub.pulls [2] rfl) ?_
  refine OS.call noGo rfl (fun _ => rfl) ((RFlag_ct hv.cons.cons hn).mono ?_)
  rintro v' L' ⟨rfl, v2, rfl, hr⟩
  refine ⟨_, rfl, ?_⟩
  refine OS.call noGo rfl (fun _ => rfl) ((one_ct _).mono ?_)
  rintro v' L' ⟨rfl, rfl⟩
  refine ⟨_, rfl, ?_⟩
  refine OS.pure rfl (fun _ => rfl) rfl ?_
  refine OS.write rfl (e_store 1 rfl rfl rfl rfl rfl rfl rfl rfl) rfl ?_
  refine OS.nil ?_
  refine LS.ret ⟨_, res_cell 1 rfl rfl rfl rfl, ?_⟩
  exact ⟨rfl, r4, _, r0, _, v2, rfl, ((hr.uncons (by decide)).uncons (by decide)).cons.cons⟩
end Go.Proofs.Ytnfenpkkhkdkhaa
