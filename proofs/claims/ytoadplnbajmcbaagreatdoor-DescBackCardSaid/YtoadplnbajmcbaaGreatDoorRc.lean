/- The library's numbers, and what is asked of one. -/
import Derived.Test.YtoadplnbajmcbaaGreatDoorRb
import Derived.Test.YtoadplnbajmcbaaGreatDoorRs
import Derived.Test.YtoadplnbajmcbaaGreatDoorHn
import Derived.Test.YtoadplnbajmcbaaGreatDoorGbw
import Derived.Sort.Grow
namespace Go.Proofs.YtoadplnbajmcbaaGreatDoor
open Go.Am
set_option linter.unusedVariables false
set_option maxRecDepth 20000
set_option maxHeartbeats 4000000
attribute [local irreducible] OS LSr ODS CS
theorem below_grow (w : World) (k : Nat) (os : Array Obj) : Go.RowKit.Below w.heap.size w (Go.Sort.grow (w.drewN k) os) :=
  ⟨rfl, rfl, rfl, by show w.heap.size ≤ (w.heap ++ os).size; simp, fun j hj => by
    show (w.heap ++ os)[j]? = _
    rw [Array.getElem?_append_left hj]⟩
section
variable {g : Gn} {L : RL}
theorem Atoi_ok {s : List UInt8} {n : Int} (hs : s.length ≤ 1000000000) (h : Lib.atoiAll s = .ok n) : CS Tryz.prog 164 [str s] L fun v L' => v = .tuple #[.int .i64 n, .nilIface] ∧ L' = L :=
  CS.of_calls ⟨_, _, rfl, rfl⟩ rfl fun h0 H ρ w HR => (Tryz.strconv_Atoi_ok ⟨⟨s⟩⟩ (by show s.length ≤ _; omega) n h w).mono fun e w' ⟨he, hw⟩ => ⟨_, he, .tuple (.cons (.int _ _) (.cons .nilIface .nil)), by
    rcases hw with rfl | ⟨t, rfl⟩
    · exact .refl _ _
    · exact Lib.bytesWorld_below _ _ _⟩
theorem Atoi_no {s : List UInt8} (hG : GL g L) (hs : s.length ≤ 1000000000) (h : ∀ n, Lib.atoiAll s ≠ .ok n) : CS Tryz.prog 164 [str s] L fun v L' => ∃ m, v = .tuple #[.int .i64 m, .iface 344 (.chan none)] ∧ L' = L := by
  cases hh : Lib.atoiAll s
  · rename_i n; exact absurd hh (h n)
  · refine (CS.of_calls (v := .tuple #[.int .i64 0, .iface 344 (.chan none)]) ⟨_, _, rfl, rfl⟩ rfl fun h0 H ρ w HR => ?_).mono fun v L' ⟨a, b⟩ => ⟨0, a, b⟩
    refine (Tryz.strconv_Atoi_syntax ⟨⟨s⟩⟩ (by show s.length ≤ _; omega) hh g.es w (glob_cell hG.s H HR rfl) (.inr hG.hs)).mono fun e w' ⟨N, he, _, _, hB⟩ => ⟨_, he, .tuple (.cons (.int _ _) (.cons (.iface (.any _)) .nil)), hB⟩
  · refine (CS.of_calls (v := .tuple #[.int .i64 (Lib.atoiSat s), .iface 344 (.chan none)]) ⟨_, _, rfl, rfl⟩ rfl fun h0 H ρ w HR => ?_).mono fun v L' ⟨a, b⟩ => ⟨_, a, b⟩
    refine (Tryz.strconv_Atoi_range ⟨⟨s⟩⟩ (by show s.length ≤ _; omega) hh g.er w (glob_cell hG.r H HR rfl) (.inr hG.hr)).mono fun e w' ⟨N, he, _, _, hB⟩ => ⟨_, he, .tuple (.cons (.int _ _) (.cons (.iface (.any _)) .nil)), hB⟩
theorem Itoa_ct (hG : GL g L) {n : Int} (h0 : -9223372036854775808 ≤ n) (h1 : n ≤ 9223372036854775807) : CS Tryz.prog 165 [.int .i64 n] L fun v L' => v = str (Lib.itoa n) ∧ L' = L :=
  CS.of_calls ⟨_, _, rfl, rfl⟩ rfl fun h H ρ w HR => by
    obtain ⟨e, f, hh⟩ := glob_heap hG.p H HR (by unfold pow10V Go.Lib.pow10Tab; simp)
    have htab : Lib.TabIs Tryz.prog w "internal/strconv.uint64pow10" .u64 Lib.pow10Tab := by
      have hg : Tryz.prog.globalNamed "internal/strconv.uint64pow10" = some 6 := by kernel_rfl
      unfold Lib.TabIs World.var?
      rw [hg]
      simp only [Option.bind_some, hh]
      rfl
    exact (Tryz.strconv_Itoa n h0 h1 w htab).mono fun e w' ⟨he, k, os, hw⟩ => ⟨_, he, .string _, by rw [hw]; exact below_grow w k os⟩
/-- A number from 1 to the most. -/
def numOk (m : Nat) (s : List UInt8) : Bool := decide (1 ≤ Go.Pd.numN s ∧ Go.Pd.numN s ≤ m)
theorem number_ct {s : List UInt8} {rm m : Nat} (hG : GL g L) (hm : (rm, ARow.cells 3 [.int .i64 (m : Nat)]) ∈ L) (hs : s.length ≤ 1000000000) (h1 : m ≤ 1000) : CS Tryz.prog 163 [str s, ptr rm] L fun v L' => v = .bool (numOk m s) ∧ L' = L := by
  have key := Go.Pd.num_asks (s := s) h1
  have hno : ¬ (∃ v, Lib.atoiAll s = .ok v ∧ 1 ≤ v ∧ v ≤ (m : Int) ∧ Lib.itoa v = s) → numOk m s = false := fun h => decide_eq_false fun h' => h (key.2 h')
  by_cases hok : ∃ n, Lib.atoiAll s = .ok n
  · obtain ⟨n, hn⟩ := hok
    have hb := Lib.atoiAll_bounds hn
    have hno' : ∀ {P : Prop}, (P → False) → (1 ≤ n ∧ n ≤ (m : Int) ∧ Lib.itoa n = s → P) → numOk m s = false := fun h1 h2 => hno fun ⟨v, hv, a, b, c⟩ => by
      rw [hn] at hv; injection hv with hv; subst hv; exact h1 (h2 ⟨a, b, c⟩)
    refine CS.mk (fn := Tryz.f163) rfl rfl rfl rfl ?_
    refine yG ?_
    refine OS.call noGo rfl (fun _ => rfl) ((Atoi_ok hs hn).mono ?_)
    rintro v L' ⟨rfl, rfl⟩
    refine ⟨_, rfl, ?_⟩
    by_cases c1 : 1 ≤ n
    · have b1 : ileB 1 n = true := by rw [ileB_eq]; exact decide_eq_true c1
      by_cases c2 : n ≤ (m : Int)
      · have b2 : ileB n (m : Nat) = true := by rw [ileB_eq]; exact decide_eq_true c2
        refine yG ?_
        refine OS.read rfl (e_loadm hm rfl rfl rfl (part_one rfl rfl)) rfl ?_
        refine yG ?_
        refine OS.call noGo rfl (fun _ => rfl) ((Itoa_ct hG hb.1 hb.2).mono ?_)
        rintro v L' ⟨rfl, rfl⟩
        refine ⟨_, rfl, ?_⟩
        by_cases c3 : Lib.itoa n = s
        · have b3 : bytesEq (Lib.itoa n) s = true := by rw [beq_bytes]; exact decide_eq_true c3
          refine yG ?_
          exact ⟨congrArg Value.bool (decide_eq_true (key.1 ⟨n, hn, c1, c2, c3⟩)).symm, rfl⟩
        · have b3 : bytesEq (Lib.itoa n) s = false := by rw [beq_bytes]; exact decide_eq_false c3
          refine yG ?_
          exact ⟨congrArg Value.bool (hno' c3 fun h => h.2.2).symm, rfl⟩
      · have b2 : ileB n (m : Nat) = false := by rw [ileB_eq]; exact decide_eq_false c2
        refine yG ?_
        refine OS.read rfl (e_loadm hm rfl rfl rfl (part_one rfl rfl)) rfl ?_
        refine yG ?_
        exact ⟨congrArg Value.bool (hno' c2 fun h => h.2.1).symm, rfl⟩
    · have b1 : ileB 1 n = false := by rw [ileB_eq]; exact decide_eq_false c1
      refine yG ?_
      exact ⟨congrArg Value.bool (hno' c1 fun h => h.1).symm, rfl⟩
  · refine CS.mk (fn := Tryz.f163) rfl rfl rfl rfl ?_
    refine yG ?_
    refine OS.call noGo rfl (fun _ => rfl) ((Atoi_no hG hs fun n hn => hok ⟨n, hn⟩).mono ?_)
    rintro v L' ⟨k, rfl, rfl⟩
    refine ⟨_, rfl, ?_⟩
    refine yG ?_
    exact ⟨congrArg Value.bool (hno fun ⟨v, hv, _⟩ => hok ⟨v, hv⟩).symm, rfl⟩
end
end Go.Proofs.YtoadplnbajmcbaaGreatDoor
