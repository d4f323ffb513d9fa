/- Layer 13: the law ExpandPlain: what has no $ stays; what has each $ twice comes out with each once. -/
import Derived.Test.YtmdcfnnoeimakaaGreatDoorFXg
import Derived.Test.YtmdcfnnoeimakaaGreatDoorFXk
import Derived.Test.YtmdcfnnoeimakaaGreatDoorXw
namespace Go.Proofs.YtmdcfnnoeimakaaGreatDoor.E
open Go.Proofs.YtmdcfnnoeimakaaGreatDoor
open Go.Am Go.Xp
set_option linter.unusedVariables false
set_option linter.unusedSimpArgs false
set_option maxRecDepth 20000
set_option maxHeartbeats 8000000
attribute [local irreducible] OS LSr ODS CS YS
theorem dbl_step {s : W} {k : Nat} {c : UInt8} (h : s[k]? = some c) : dbl (s.take (k + 1)) = dbl (s.take k) ++ (if c = 36 then [36, 36] else [c]) := by
  rw [take_one h, dbl_snoc]
theorem part_at {s : W} {k : Nat} {c : UInt8} (h : s[k]? = some c) : (s.drop k).take (k + 1 - k) = [c] := by
  have e : k + 1 - k = 1 := by omega
  rw [e, List.take_one, List.head?_drop, h]; rfl
theorem has_step {s : W} {k : Nat} {c : UInt8} (h : s[k]? = some c) : (s.take (k + 1)).contains 36 = ((s.take k).contains 36 || c == 36) := by
  rw [take_one h]
  by_cases hc : c = 36
  · subst hc; simp
  · have : ¬ (36 = c) := fun e => hc e.symm
    simp [hc, this]
theorem plain_ct {L : RL} {v : Value} {l : List (W × W)} (text : W) (hs : text.length ≤ 140737488355328) (hv : SV 2 L v l.length (fl l)) (hl : l.length * 32 ≤ 140737488355328) (hw : ∀ p, p ∈ l → p.2.length ≤ 140737488355328) :
    CS Tryz.prog 4 [str text, v] L fun u L' => u = .bool true ∧ L' = L := by
  refine CS.mk (fn := Tryz.f4) rfl rfl rfl rfl ?_
  refine yG ?_
  refine OS.call noGo rfl (fun _ => rfl) ((works_ct).mono ?_)
  rintro v' L' ⟨rfl, rfl⟩
  refine ⟨_, rfl, ?_⟩
  by_cases h1 : text.length ≤ 1000
  · have b1 : (!ileB ((text.length : Nat) : Int) 1000) = false := by rw [ileB_eq]; simp; omega
    refine yG ?_
    refine LS.loopJ [0, 1, 5, 6, 7] (fun q a L2 => ∃ k : Nat, q = text.length - k ∧ k ≤ text.length ∧ L2 = L' ∧ a = [str text, v, .chan none, .chan none, .chan none, str (dbl (text.take k)), .bool (!((text.take k).contains 36)), .int .i64 (k : Nat), .chan none, .chan none, .chan none, .chan none, .chan none, .chan none, .chan none, .chan none, .chan none, .chan none, .chan none, .chan none, .chan none, .chan none, .chan none, .chan none, .chan none, .chan none, .chan none, .chan none, .chan none, .chan none, .chan none, .chan none, .chan none, .chan none, .chan none, .chan none, .chan none, .chan none, .chan none, .chan none, .chan none, .chan none, .chan none, .chan none, .chan none, .chan none, .chan none, .chan none, .chan none, .chan none, .chan none, .chan none, .chan none, .chan none, .chan none, .chan none, .chan none, .chan none, .chan none, .chan none, .chan none, .chan none, .chan none, .chan none, .chan none, .chan none, .chan none, .chan none, .chan none, .chan none, .chan none, .chan none, .chan none, .chan none, .chan none, .chan none, .chan none, .chan none, .chan none, .chan none]) (n := text.length) rfl ⟨0, rfl, by omega, rfl, rfl⟩ ?_
    rintro q a L2 ⟨k, rfl, hk, hL, rfl⟩
    rw [hL]
    clear hL
    by_cases hc : k < text.length
    · obtain ⟨c, hg⟩ := ext_list (l := text) (k := k) hc
      have b2 : (!ileB ((text.length : Nat) : Int) (k : Nat)) = true := by rw [ileB_eq]; simp; omega
      have hd := dbl_len (text.take k)
      have ht : (text.take k).length ≤ 1000 := by simp; omega
      refine yG ?_
      refine OS.pure rfl (e_part (l := k) (u := k + 1) rfl rfl rfl rfl bound_nat bound_nat rfl (by omega) (by omega)) rfl ?_
      rw [part_at hg]
      refine OS.pure rfl (e_cat rfl rfl rfl (by simp; omega)) rfl ?_
      by_cases h36 : c = 36
      · have b3 : ieqB ((c.toNat : Nat) : Int) 36 = true := by subst h36; rfl
        refine yG ?_
        refine OS.pure rfl (e_cat rfl rfl rfl (by simp; omega)) rfl ?_
        refine yG ?_
        have e5 : dbl (text.take (k + 1)) = (dbl (text.take k) ++ [c]) ++ [36] := by rw [dbl_step hg, if_pos h36, h36]; simp
        have e6 : (!((text.take (k + 1)).contains 36)) = false := by rw [has_step hg, h36]; simp
        refine ⟨text.length - (k + 1), by omega, k + 1, rfl, by omega, rfl, ?_⟩
        rw [e5, e6]
        rfl
      · have b3 : ieqB ((c.toNat : Nat) : Int) 36 = false := by rw [cmp_u8 (k := 36) c 36 rfl]; simpa using h36
        have b4 : (c == 36) = false := by simpa using h36
        refine yG ?_
        have e5 : dbl (text.take (k + 1)) = dbl (text.take k) ++ [c] := by rw [dbl_step hg, if_neg h36]
        have e6 : (text.take (k + 1)).contains 36 = (text.take k).contains 36 := by rw [has_step hg, b4, Bool.or_false]
        refine ⟨text.length - (k + 1), by omega, k + 1, rfl, by omega, rfl, ?_⟩
        rw [e5, e6]
        rfl
    · obtain rfl : k = text.length := by omega
      have b2 : (!ileB ((text.length : Nat) : Int) (text.length : Nat)) = false := by rw [ileB_eq]; simp
      have hd := dbl_len text
      rw [List.take_length]
      refine yG ?_
      refine LS.exit ?_
      refine yG ?_
      refine OS.call noGo rfl (fun _ => rfl) ((Subst_ct (dbl text) (by omega) hv hl hw).mono ?_)
      rintro u L' ⟨rfl, rfl⟩
      refine ⟨_, rfl, ?_⟩
      rw [subst_dbl]
      by_cases h4 : 400 < text.length
      · have b5 : (!ileB ((text.length : Nat) : Int) 400) = true := by rw [ileB_eq]; simp; omega
        rw [if_pos h4, show putV (.error 40 : Except Nat W) = .tuple #[str [], .int .i64 40] from rfl]
        refine yG ?_
        exact ⟨rfl, rfl⟩
      · have b5 : (!ileB ((text.length : Nat) : Int) 400) = false := by rw [ileB_eq]; simp; omega
        have b6 : bytesEq text text = true := by rw [bytesEq_eq]; simp
        rw [if_neg h4, show putV (.ok text : Except Nat W) = .tuple #[str text, .int .i64 0] from rfl]
        rcases tf (text.contains 36) with hp | hp
        · rw [hp]
          refine yG ?_
          refine OS.call noGo rfl (fun _ => rfl) ((Subst_ct text (by omega) hv hl hw).mono ?_)
          rintro u L' ⟨rfl, rfl⟩
          refine ⟨_, rfl, ?_⟩
          cases subst (Xp.look l) text with
          | ok o =>
            rw [show putV (.ok o : Except Nat W) = .tuple #[str o, .int .i64 0] from rfl]
            refine yG ?_
            exact ⟨rfl, rfl⟩
          | error e =>
            rw [show putV (.error e : Except Nat W) = .tuple #[str [], .int .i64 (e : Int)] from rfl]
            refine yG ?_
            exact ⟨rfl, rfl⟩
        · have hn : (36 : UInt8) ∉ text := fun hm => by
            have : text.contains 36 = true := by simpa using hm
            rw [this] at hp; cases hp
          rw [hp]
          refine yG ?_
          refine OS.call noGo rfl (fun _ => rfl) ((Subst_ct text (by omega) hv hl hw).mono ?_)
          rintro u L' ⟨rfl, rfl⟩
          refine ⟨_, rfl, ?_⟩
          rw [subst_none _ hn, if_neg h4, show putV (.ok text : Except Nat W) = .tuple #[str text, .int .i64 0] from rfl]
          refine yG ?_
          exact ⟨rfl, rfl⟩
  · have b1 : (!ileB ((text.length : Nat) : Int) 1000) = true := by rw [ileB_eq]; simp; omega
    refine yG ?_
    refine OS.call noGo rfl (fun _ => rfl) ((works_ct).mono ?_)
    rintro v' L' ⟨rfl, rfl⟩
    refine ⟨_, rfl, ?_⟩
    refine yG ?_
    exact ⟨rfl, rfl⟩
end Go.Proofs.YtmdcfnnoeimakaaGreatDoor.E
