/- Layer 13: what a $ tells. -/
import Derived.Test.YtmdcfnnoeimakaaGreatDoorFXd
namespace Go.Proofs.YtmdcfnnoeimakaaGreatDoor.E
open Go.Proofs.YtmdcfnnoeimakaaGreatDoor
open Go.Am Go.Xp
set_option linter.unusedVariables false
set_option linter.unusedSimpArgs false
set_option maxRecDepth 20000
set_option maxHeartbeats 4000000
attribute [local irreducible] OS LSr ODS CS YS
section
variable {L : RL}
theorem ofNameE_ct (c : UInt8) : CS Tryz.prog 47 [.int .u8 (c.toNat : Nat)] L fun v L' => v = .bool (ofN c) ∧ L' = L := by
  have e : ofN c = ((ileB 97 (c.toNat : Nat) && ileB (c.toNat : Nat) 122) || ((ileB 48 (c.toNat : Nat) && ileB (c.toNat : Nat) 57) || (ieqB (c.toNat : Nat) 45 || ieqB (c.toNat : Nat) 95))) := by
    rw [u8_le (k := 97) 97 rfl, u8_ge (k := 122) 122 rfl, u8_le (k := 48) 48 rfl, u8_ge (k := 57) 57 rfl, cmp_u8 (k := 45) c 45 rfl, cmp_u8 (k := 95) c 95 rfl]; rfl
  rw [e]
  refine CS.mk (fn := Tryz.f47) rfl rfl rfl rfl ?_
  rcases tf (ileB 97 (c.toNat : Nat)) with h1 | h1 <;> rcases tf (ileB (c.toNat : Nat) 122) with h2 | h2 <;> rcases tf (ileB 48 (c.toNat : Nat)) with h3 | h3 <;> rcases tf (ileB (c.toNat : Nat) 57) with h4 | h4 <;> rcases tf (ieqB (c.toNat : Nat) 45) with h5 | h5 <;> rcases tf (ieqB (c.toNat : Nat) 95) with h6 | h6 <;> rw [h1, h2, h3, h4, h5, h6]
  all_goals
    refine yG ?_
    exact ⟨rfl, rfl⟩
/-- What CutPrefix of a byte tells. -/
def cp1 (c : UInt8) (s : W) : W × Bool := match s with
  | [] => ([], false)
  | d :: t => if d = c then (t, true) else (d :: t, false)
theorem CutPrefix_ct (s : W) (c : UInt8) (hs : s.length ≤ 1000000000000) : CS Tryz.prog 34 [str s, str [c]] L fun v L' => v = .tuple #[str (cp1 c s).1, .bool (cp1 c s).2] ∧ L' = L := by
  have k1 : CS Tryz.prog 60 [str s, str [c]] L fun v L' => v = .bool (cp1 c s).2 ∧ L' = L := by
    cases s with
    | nil =>
      refine CS.mk (fn := Tryz.f60) rfl rfl rfl rfl ?_
      refine yG ?_
      exact ⟨rfl, rfl⟩
    | cons d s =>
      have hb : ileB 1 ((d :: s).length : Int) = true := ileB_iff.2 (by simp; omega)
      refine CS.mk (fn := Tryz.f60) rfl rfl rfl rfl ?_
      refine yG ?_
      refine OS.pure rfl (e_part (s := d :: s) (l := 0) (u := 1) rfl rfl rfl rfl rfl rfl rfl (by simp) (by omega)) rfl ?_
      refine yG ?_
      refine ⟨?_, rfl⟩
      show Value.bool (bytesEq [d] [c]) = _
      rw [bytesEq_eq]
      by_cases h : d = c <;> simp [cp1, h]
  have k2 : CS Tryz.prog 45 [str s, str [c]] L fun v L' => v = .tuple #[str (cp1 c s).1, .bool (cp1 c s).2] ∧ L' = L := by
    refine CS.mk (fn := Tryz.f45) rfl rfl rfl rfl ?_
    refine yG ?_
    refine OS.call noGo rfl (fun _ => rfl) ((k1).mono ?_)
    rintro v L' ⟨rfl, rfl⟩
    refine ⟨_, rfl, ?_⟩
    cases s with
    | nil =>
      refine yG ?_
      exact ⟨rfl, rfl⟩
    | cons d s =>
      by_cases h : d = c
      · have e : cp1 c (d :: s) = (s, true) := if_pos h
        have t2 : ((d :: s).drop 1).take ((d :: s).length - 1) = s := by simp
        rw [e]
        refine yG ?_
        refine OS.pure rfl (e_part (s := d :: s) (l := 1) (u := (d :: s).length) rfl rfl rfl rfl rfl rfl rfl (by simp) (by simp)) rfl ?_
        rw [t2]
        refine yG ?_
        exact ⟨rfl, rfl⟩
      · have e : cp1 c (d :: s) = (d :: s, false) := if_neg h
        rw [e]
        refine yG ?_
        exact ⟨rfl, rfl⟩
  refine CS.mk (fn := Tryz.f34) rfl rfl rfl rfl ?_
  refine yG ?_
  refine OS.call noGo rfl (fun _ => rfl) ((k2).mono ?_)
  rintro v L' ⟨rfl, rfl⟩
  refine ⟨_, rfl, ?_⟩
  refine yG ?_
  exact ⟨rfl, rfl⟩
end
end Go.Proofs.YtmdcfnnoeimakaaGreatDoor.E
