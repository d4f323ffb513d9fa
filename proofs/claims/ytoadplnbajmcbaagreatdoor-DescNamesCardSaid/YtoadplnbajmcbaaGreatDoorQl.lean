/- Layer 12: DescNames' law. -/
import Derived.Test.YtoadplnbajmcbaaGreatDoorQk
namespace Go.Proofs.YtoadplnbajmcbaaGreatDoor
open Go.Am Go.Pd
set_option linter.unusedVariables false
set_option maxRecDepth 20000
set_option maxHeartbeats 8000000
attribute [local irreducible] OS LSr ODS CS YS
def nT : List (W × Nat × Nat) := [([117, 115, 101, 32, 116], 1, 4), ([106, 111, 98, 32, 65], 1, 63), ([106, 111, 98, 32, 97, 10, 106, 111, 98, 32, 97], 2, 6), ([106, 111, 98, 32, 97, 10, 116, 101, 109, 112, 108, 97, 116, 101, 32, 97], 0, 0), ([106, 111, 98, 32, 97, 10, 116, 114, 105, 101, 115, 32, 57], 2, 1), ([106, 111, 98, 32, 97, 10, 116, 114, 105, 101, 115, 32, 53, 10, 108, 105, 109, 105, 116, 32, 49, 48, 48, 48], 0, 0), ([106, 111, 98, 32, 97, 10, 108, 105, 109, 105, 116, 32, 49, 48, 48, 49], 2, 1), ([106, 111, 98, 32, 97, 10, 116, 114, 105, 101, 115, 32, 48, 49], 2, 1), ([106, 111, 98, 32, 97, 10, 100, 111], 2, 4), ([106, 111, 98, 32, 97, 10, 109, 97, 110, 117, 97, 108, 10, 117, 115, 101, 32, 116], 3, 4), ([116, 101, 109, 112, 108, 97, 116, 101, 32, 97, 10, 117, 115, 101, 32, 116], 2, 4), ([105, 110, 99, 108, 117, 100, 101, 32, 46, 46, 47, 120], 1, 4), ([105, 110, 99, 108, 117, 100, 101, 32, 97, 47, 98, 46, 99], 0, 0), ([106, 111, 98, 32, 97, 10, 105, 110, 99, 108, 117, 100, 101, 32, 98], 2, 4), ([106, 111, 98, 32, 97, 10, 97, 120, 105, 115, 32, 120], 2, 4), ([106, 111, 98, 32, 97, 10, 97, 120, 105, 115, 32, 120, 32, 49, 10, 97, 120, 105, 115, 32, 120, 32, 50], 3, 6), ([106, 111, 98, 32, 97, 10, 97, 120, 105, 115, 32, 120, 32, 49, 10, 97, 120, 105, 115, 32, 121, 32, 50], 0, 0), ([106, 111, 98, 32, 97, 10, 119, 104, 101, 110, 32, 120, 10, 119, 104, 101, 110, 32, 121], 3, 6), ([106, 111, 98, 32, 97, 10, 97, 120, 105, 115, 32, 120, 32, 34, 97, 32, 98, 34], 2, 4), ([106, 111, 98, 32, 97, 10, 97, 120, 105, 115, 32, 88, 32, 34, 97, 32, 98, 34], 2, 63), ([111, 110, 32, 42, 10, 111, 110, 32, 120, 32, 121, 10, 112, 97, 116, 104, 115, 32, 42, 42], 0, 0), ([111, 110], 1, 4), ([111, 110, 32, 34, 34], 1, 4), ([118, 97, 114, 32, 97], 1, 4), ([118, 97, 114, 32, 97, 32, 34, 34], 0, 0), ([34, 120], 1, 4), ([10, 10, 119, 104, 97, 116], 3, 4), ([106, 111, 98], 1, 4), ([106, 111, 98, 32, 97, 32, 98], 1, 4), ([106, 111, 98, 32, 97, 10, 110, 101, 101, 100, 115, 32, 98, 32, 67], 2, 63), ([106, 111, 98, 32, 97, 10, 116, 97, 103, 115, 32, 67], 2, 63)]
def nC : List (W × Nat × Nat) → List Value
  | [] => []
  | (s, n, e) :: r => str s :: .int .i64 (n : Nat) :: .int .i64 (e : Nat) :: nC r
theorem nC_at : ∀ {l : List (W × Nat × Nat)} {j : Nat} {s : W} {n e : Nat}, l[j]? = some (s, n, e) → cut (nC l) (j * 3) 3 = some [str s, .int .i64 (n : Nat), .int .i64 (e : Nat)]
  | [], _, _, _, _, h => by simp at h
  | (s', n', e') :: r, 0, s, n, e, h => by
    simp at h; obtain ⟨rfl, rfl, rfl⟩ := h
    cases hr : nC r <;> simp [nC, hr] <;> rfl
  | (s', n', e') :: r, j + 1, s, n, e, h => by
    have := nC_at (j := j) (l := r) (s := s) (n := n) (e := e) (by simpa using h)
    rw [show (j + 1) * 3 = j * 3 + 1 + 1 + 1 by omega]
    exact this
theorem nT_all : (nT.all fun x => (pdN (RD x.1) == x.2.1 && pdE (RD x.1) == x.2.2) && Nat.ble x.1.length 100) = true := by kernel_rfl
def manyW : Nat → W
  | 0 => []
  | j + 1 => manyW j ++ [106, 111, 98, 32, 106] ++ [UInt8.ofNat (97 + j)] ++ [10]
theorem many_len : ∀ j, (manyW j).length = 7 * j
  | 0 => rfl
  | j + 1 => by simp [manyW, many_len j]; omega
def doW : Nat → W
  | 0 => [106, 111, 98, 32, 97, 10]
  | j + 1 => doW j ++ [100, 111, 32, 115, 97, 121, 10]
theorem do_len : ∀ j, (doW j).length = 7 * j + 6
  | 0 => rfl
  | j + 1 => by simp [doW, do_len j]; omega
theorem many_is : pdN (RD (manyW 25)) = 25 ∧ pdE (RD (manyW 25)) = 3 := by
  have h : (Nat.beq (pdN (RD (manyW 25))) 25 && Nat.beq (pdE (RD (manyW 25))) 3) = true := by kernel_rfl
  simpa [Nat.beq_eq] using h
theorem do_is : pdN (RD (doW 41)) = 42 ∧ pdE (RD (doW 41)) = 3 := by
  have h : (Nat.beq (pdN (RD (doW 41))) 42 && Nat.beq (pdE (RD (doW 41))) 3) = true := by kernel_rfl
  simpa [Nat.beq_eq] using h
def pA : Dc := ⟨[], [⟨0, 3, [97], []⟩]⟩
def pB : Dc := ⟨[⟨0, [106, 111, 98], [[97]]⟩], []⟩
def pC : Dc := ⟨[⟨0, [], []⟩], []⟩
theorem pA_is : printP pA = .error 1 := by kernel_rfl
theorem pB_is : printP pB = .error 4 := by kernel_rfl
theorem pC_is : printP pC = .error 4 := by kernel_rfl
theorem pA_b : DocB pA := by unfold DocB ItsB; decide
theorem pB_b : DocB pB := by unfold DocB ItsB; decide
theorem pC_b : DocB pC := by unfold DocB ItsB; decide
theorem sub_front (Z : RL) {A : RL} : Sub A (Z ++ A) := Sub.sums2 Z fun f => by simp only [List.map_append, List.sum_append]; omega
section
variable {F : RL}
theorem pA_v (ra : Nat) : DocV ((ra, ARow.cells tS [.int .i64 0, .int .u8 3, str [97], .slice none 0 0]) :: F) (.agg #[.slice none 0 0, .slice (some ⟨ra, 0, none⟩) 1 1]) pA := ⟨_, _, [], [.int .i64 0, .int .u8 3, str [97], .slice none 0 0], rfl, .inl ⟨rfl, rfl, rfl⟩, rfl, SV.row (sz := 4) (n := 1) (List.mem_cons_self ..) rfl, .slice none 0 0, [], [], rfl, ⟨.inl ⟨rfl, rfl, rfl⟩, rfl⟩, rfl⟩
theorem pB_v (rh rl : Nat) : DocV ((rh, ARow.cells tI [.int .i64 0, str [106, 111, 98], .slice (some ⟨rl, 0, none⟩) 1 openCap]) :: (rl, ARow.cells 9 (strs [[97]])) :: F) (.agg #[.slice (some ⟨rh, 0, none⟩) 1 1, .slice none 0 0]) pB := ⟨_, _, [.int .i64 0, str [106, 111, 98], .slice (some ⟨rl, 0, none⟩) 1 openCap], [], rfl, SV.row (sz := 3) (n := 1) (List.mem_cons_self ..) rfl, ⟨.slice (some ⟨rl, 0, none⟩) 1 openCap, [], rfl, .inr ⟨rl, 0, openCap, _, _, rfl, List.mem_cons_of_mem _ (List.mem_cons_self ..), rfl, rfl, .inl ⟨rfl, rfl, allS_strs [[97]]⟩⟩, rfl⟩, .inl ⟨rfl, rfl, rfl⟩, rfl⟩
theorem pC_v (rc : Nat) : DocV ((rc, ARow.cells tI [.int .i64 0, str [], .slice none 0 0]) :: F) (.agg #[.slice (some ⟨rc, 0, none⟩) 1 1, .slice none 0 0]) pC := ⟨_, _, [.int .i64 0, str [], .slice none 0 0], [], rfl, SV.row (sz := 3) (n := 1) (List.mem_cons_self ..) rfl, ⟨.slice none 0 0, [], rfl, .inl ⟨rfl, rfl, rfl⟩, rfl⟩, .inl ⟨rfl, rfl, rfl⟩, rfl⟩
theorem descNames_ct {g : Gn} (hG : GL g F) : CS Tryz.prog 6 [] F fun v L' => v = .bool true := by
  refine CS.mk (fn := Tryz.f6) rfl rfl rfl rfl ?_
  refine yG ?_
  refine OS.fresh rfl (e_new (fun _ => rfl) rfl) (fun _ => rfl) (fun rT => ?_)
  show OS _ _ _ _ ((rT, ARow.cells _ (nC nT)) :: _) _
  have hT : SV 3 ((rT, ARow.cells 47 (nC nT)) :: F) (.slice (some ⟨rT, 0, none⟩) 31 31) 31 (nC nT) := SV.row (sz := 3) (n := 31) (List.mem_cons_self ..) (by kernel_rfl)
  refine yG ?_
  refine LS.loopJ [53, 54, 55] (fun q a L' => ∃ (j : Nat) (X : RL), q = 31 - j ∧ j ≤ 31 ∧ L' = X ++ ((rT, ARow.cells 47 (nC nT)) :: F) ∧ a = [.chan none, .chan none, .chan none, .chan none, .chan none, .chan none, .chan none, .chan none, .chan none, .chan none, .chan none, .chan none, .chan none, .chan none, .chan none, .chan none, .chan none, .chan none, .chan none, .chan none, .chan none, .chan none, .chan none, .chan none, .chan none, .chan none, .chan none, .chan none, .chan none, .chan none, .chan none, .chan none, .chan none, .chan none, .chan none, .chan none, .chan none, .chan none, .chan none, .chan none, .chan none, .chan none, .chan none, .chan none, .chan none, .chan none, .chan none, .chan none, .chan none, .chan none, .chan none, .chan none, .chan none, .slice (some ⟨rT, 0, none⟩) 31 31, .int .i64 ((31 : Nat) : Int), .int .i64 (j : Nat), .chan none, .chan none, .chan none, .chan none, .chan none, .chan none, .chan none, .chan none, .chan none, .chan none, .chan none, .chan none, .chan none, .chan none, .chan none, .chan none, .chan none, .chan none, .chan none, .chan none, .chan none, .chan none, .chan none, .chan none, .chan none, .chan none, .chan none, .chan none, .chan none, .chan none, .chan none, .chan none, .chan none, .chan none, .chan none, .chan none, .chan none, .chan none, .chan none, .chan none, .chan none, .chan none, .chan none, .chan none, .chan none, .chan none, .chan none, .chan none, .chan none, .chan none, .chan none, .chan none, .chan none, .chan none, .chan none, .chan none, .chan none, .chan none, .chan none, .chan none, .chan none, .chan none, .chan none, .chan none, .chan none, .chan none, .chan none, .chan none, .chan none, .chan none, .chan none, .chan none, .chan none, .chan none, .chan none, .chan none, .chan none, .chan none, .chan none, .chan none, .chan none, .chan none, .chan none, .chan none, .chan none, .chan none, .chan none, .chan none, .chan none, .chan none, .chan none, .chan none, .chan none, .chan none, .chan none, .chan none, .chan none, .chan none, .chan none, .chan none, .chan none, .chan none, .chan none, .chan none, .chan none, .chan none, .chan none, .chan none, .chan none, .chan none, .chan none, .chan none, .chan none, .chan none, .chan none]) (n := 31) rfl ⟨0, [], rfl, by omega, rfl, rfl⟩ ?_
  rintro q a L' ⟨j, X, rfl, hj, rfl, rfl⟩
  refine LS.sub (sub_front X) ?_
  by_cases hjn : j < 31
  · have hb : (!ileB ((31 : Nat) : Int) (j : Nat)) = true := by rw [ileB_eq]; simp; omega
    have hlen : nT.length = 31 := rfl
    obtain ⟨⟨s, n, e⟩, hx⟩ : ∃ x, nT[j]? = some x := ⟨_, List.getElem?_eq_getElem (by omega)⟩
    have hall := List.all_eq_true.1 nT_all _ (List.mem_of_getElem? hx)
    simp only [Bool.and_eq_true, beq_iff_eq, Nat.ble_eq] at hall
    obtain ⟨⟨hno, her⟩, hsl⟩ := hall
    have hcut := nC_at hx
    have hb1 : (!ieqB ((n : Nat) : Int) (n : Nat)) = false := by rw [ieqB_eq]; simp
    have hb2 : (!ieqB ((e : Nat) : Int) (e : Nat)) = false := by rw [ieqB_eq]; simp
    refine yG ?_
    refine OS.at (j := j) hT hjn rfl rfl rfl rfl rfl rfl (fun r0 o0 row0 cs0 m0 c0 g0 k0 => ?_)
    refine ⟨_, rfl, ?_⟩
    refine OS.read rfl (e_loadm m0 c0 rfl rfl (part_agg rfl rfl (k0 _ hcut))) rfl ?_
    refine yG ?_
    refine OS.fresh rfl (e_new (fun _ => rfl) rfl) (fun _ => rfl) (fun r2 => ?_)
    refine yG ?_
    refine OS.call noGo rfl (fun _ => rfl) ((Parse_all (hG.mono fun p hp => List.mem_cons_of_mem _ (List.mem_cons_of_mem _ hp)) (Nat.le_trans hsl (by decide))).mono ?_)
    rintro u L2 ⟨A1, c1, B1, d1, Z1, rfl, rfl, hV1⟩
    rw [hno, her]
    refine ⟨_, rfl, ?_⟩
    refine OS.sub (sub_front Z1) ?_
    refine yG ?_
    refine OS.fresh rfl (e_new (fun _ => rfl) rfl) (fun _ => rfl) (fun r3 => ?_)
    refine yG ?_
    exact ⟨31 - (j + 1), by omega, j + 1, [_, _], rfl, by omega, rfl, rfl⟩
  have hb : (!ileB ((31 : Nat) : Int) (j : Nat)) = false := by rw [ileB_eq]; simp; omega
  refine yG ?_
  refine LS.exit ?_
  refine LS.sub (Sub.drops 1 rfl) ?_
  refine yG ?_
  refine LS.loopJ [6, 7] (fun q a L' => ∃ j : Nat, q = 25 - j ∧ j ≤ 25 ∧ L' = F ∧ a = [.chan none, .chan none, .chan none, .chan none, .chan none, .chan none, str (manyW j), .int .i64 (j : Nat), .chan none, .chan none, .chan none, .chan none, .chan none, .chan none, .chan none, .chan none, .chan none, .chan none, .chan none, .chan none, .chan none, .chan none, .chan none, .chan none, .chan none, .chan none, .chan none, .chan none, .chan none, .chan none, .chan none, .chan none, .chan none, .chan none, .chan none, .chan none, .chan none, .chan none, .chan none, .chan none, .chan none, .chan none, .chan none, .chan none, .chan none, .chan none, .chan none, .chan none, .chan none, .chan none, .chan none, .chan none, .chan none, .chan none, .chan none, .chan none, .chan none, .chan none, .chan none, .chan none, .chan none, .chan none, .chan none, .chan none, .chan none, .chan none, .chan none, .chan none, .chan none, .chan none, .chan none, .chan none, .chan none, .chan none, .chan none, .chan none, .chan none, .chan none, .chan none, .chan none, .chan none, .chan none, .chan none, .chan none, .chan none, .chan none, .chan none, .chan none, .chan none, .chan none, .chan none, .chan none, .chan none, .chan none, .chan none, .chan none, .chan none, .chan none, .chan none, .chan none, .chan none, .chan none, .chan none, .chan none, .chan none, .chan none, .chan none, .chan none, .chan none, .chan none, .chan none, .chan none, .chan none, .chan none, .chan none, .chan none, .chan none, .chan none, .chan none, .chan none, .chan none, .chan none, .chan none, .chan none, .chan none, .chan none, .chan none, .chan none, .chan none, .chan none, .chan none, .chan none, .chan none, .chan none, .chan none, .chan none, .chan none, .chan none, .chan none, .chan none, .chan none, .chan none, .chan none, .chan none, .chan none, .chan none, .chan none, .chan none, .chan none, .chan none, .chan none, .chan none, .chan none, .chan none, .chan none, .chan none, .chan none, .chan none, .chan none, .chan none, .chan none, .chan none, .chan none, .chan none, .chan none, .chan none, .chan none, .chan none, .chan none, .chan none, .chan none]) (n := 25) rfl ⟨0, rfl, by omega, rfl, rfl⟩ ?_
  rintro q a L' ⟨j, rfl, hj, rfl, rfl⟩
  by_cases hjn : j < 25
  · have hb : (!ileB 25 ((j : Nat) : Int)) = true := by rw [ileB_eq]; simp; omega
    have hml := many_len j
    have hc : ((UInt8.ofNat (97 + j)).toNat : Int) = 97 + (j : Int) := by simp; omega
    have hcells : byteCells [UInt8.ofNat (97 + j)] = [.int .u8 (97 + (j : Int))] := by rw [← hc]; rfl
    refine yG ?_
    refine OS.pure rfl (e_cat (xs := manyW j) (ys := [106, 111, 98, 32, 106]) rfl rfl rfl (by simp; omega)) rfl ?_
    refine yG ?_
    refine OS.pure rfl (e_add (m := 97) (n := (j : Int)) rfl rfl rfl (in_i64 (by omega) (by omega))) rfl ?_
    refine OS.pure rfl (e_conv rfl rfl rfl rfl (in_u8 (by omega) (by omega))) rfl ?_
    refine OS.fresh rfl (e_new (fun _ => rfl) rfl) (fun _ => rfl) (fun rb => ?_)
    rw [← hcells]
    refine OS.read rfl (e_textSV (n := 1) (bs := [UInt8.ofNat (97 + j)]) (SV.row (e := 5) (r := rb) (List.mem_cons_self ..) (by rw [byteCells_len]; rfl)) rfl rfl rfl rfl rfl) rfl ?_
    refine OS.sub (Sub.drop 0 rfl) ?_
    refine OS.pure rfl (e_cat (xs := manyW j ++ [106, 111, 98, 32, 106]) (ys := [UInt8.ofNat (97 + j)]) rfl rfl rfl (by simp; omega)) rfl ?_
    refine OS.pure rfl (e_cat (xs := manyW j ++ [106, 111, 98, 32, 106] ++ [UInt8.ofNat (97 + j)]) (ys := [10]) rfl rfl rfl (by simp; omega)) rfl ?_
    refine yG ?_
    exact ⟨25 - (j + 1), by omega, j + 1, rfl, by omega, rfl, rfl⟩
  have hb : (!ileB 25 ((j : Nat) : Int)) = false := by rw [ileB_eq]; simp; omega
  obtain rfl : j = 25 := by omega
  refine yG ?_
  refine LS.exit ?_
  refine yG ?_
  refine OS.call noGo rfl (fun _ => rfl) ((Parse_all hG (s := manyW 25) (by rw [many_len]; omega)).mono ?_)
  rintro u L2 ⟨A1, c1, B1, d1, Z1, rfl, rfl, hV1⟩
  rw [many_is.1, many_is.2]
  refine ⟨_, rfl, ?_⟩
  refine OS.sub (sub_front Z1) ?_
  refine yG ?_
  refine OS.fresh rfl (e_new (fun _ => rfl) rfl) (fun _ => rfl) (fun r8 => ?_)
  refine yG ?_
  refine LS.sub (Sub.drops 1 rfl) ?_
  refine yG ?_
  refine LS.loopJ [9, 10, 11, 12] (fun q a M => ∃ j : Nat, q = 41 - j ∧ j ≤ 41 ∧ M = L' ∧ a = [.chan none, .chan none, .chan none, .chan none, .chan none, .chan none, .chan none, .chan none, .chan none, .int .i64 25, .int .i64 3, str (doW j), .int .i64 (j : Nat), .chan none, .chan none, .chan none, .chan none, .chan none, .chan none, .chan none, .chan none, .chan none, .chan none, .chan none, .chan none, .chan none, .chan none, .chan none, .chan none, .chan none, .chan none, .chan none, .chan none, .chan none, .chan none, .chan none, .chan none, .chan none, .chan none, .chan none, .chan none, .chan none, .chan none, .chan none, .chan none, .chan none, .chan none, .chan none, .chan none, .chan none, .chan none, .chan none, .chan none, .chan none, .chan none, .chan none, .chan none, .chan none, .chan none, .chan none, .chan none, .chan none, .chan none, .chan none, .chan none, .chan none, .chan none, .chan none, .chan none, .chan none, .chan none, .chan none, .chan none, .chan none, .chan none, .chan none, .chan none, .chan none, .chan none, .chan none, .chan none, .chan none, .chan none, .chan none, .chan none, .chan none, .chan none, .chan none, .chan none, .chan none, .chan none, .chan none, .chan none, .chan none, .chan none, .chan none, .chan none, .chan none, .chan none, .chan none, .chan none, .chan none, .chan none, .chan none, .chan none, .chan none, .chan none, .chan none, .chan none, .chan none, .chan none, .chan none, .chan none, .chan none, .chan none, .chan none, .chan none, .chan none, .chan none, .chan none, .chan none, .chan none, .chan none, .chan none, .chan none, .chan none, .chan none, .chan none, .chan none, .chan none, .chan none, .chan none, .chan none, .chan none, .chan none, .chan none, .chan none, .chan none, .chan none, .chan none, .chan none, .chan none, .chan none, .chan none, .chan none, .chan none, .chan none, .chan none, .chan none, .chan none, .chan none, .chan none, .chan none, .chan none, .chan none, .chan none, .chan none, .chan none, .chan none, .chan none, .chan none, .chan none, .chan none, .chan none, .chan none, .chan none, .chan none, .chan none, .chan none, .chan none, .chan none]) (n := 41) rfl ⟨0, rfl, by omega, rfl, rfl⟩ ?_
  rintro q a M ⟨j, rfl, hj, rfl, rfl⟩
  by_cases hjn : j < 41
  · have hb : (!ileB 41 ((j : Nat) : Int)) = true := by rw [ileB_eq]; simp; omega
    have hml := do_len j
    refine yG ?_
    refine OS.pure rfl (e_cat (xs := doW j) (ys := [100, 111, 32, 115, 97, 121, 10]) rfl rfl rfl (by simp; omega)) rfl ?_
    refine yG ?_
    exact ⟨41 - (j + 1), by omega, j + 1, rfl, by omega, rfl, rfl⟩
  have hb : (!ileB 41 ((j : Nat) : Int)) = false := by rw [ileB_eq]; simp; omega
  obtain rfl : j = 41 := by omega
  refine yG ?_
  refine LS.exit ?_
  refine yG ?_
  refine OS.call noGo rfl (fun _ => rfl) ((Parse_all hG (s := doW 41) (by rw [do_len]; omega)).mono ?_)
  rintro u L2 ⟨A1, c1, B1, d1, Z1, rfl, rfl, hV1⟩
  rw [do_is.1, do_is.2]
  refine ⟨_, rfl, ?_⟩
  refine OS.sub (sub_front Z1) ?_
  refine yG ?_
  refine OS.fresh rfl (e_new (fun _ => rfl) rfl) (fun _ => rfl) (fun r13 => ?_)
  refine yG ?_
  refine OS.sub (Sub.drop 0 rfl) ?_
  refine OS.fresh rfl (e_new (fun _ => rfl) rfl) (fun _ => rfl) (fun ra => ?_)
  show OS _ _ _ _ ((ra, ARow.cells tS [.int .i64 0, .int .u8 3, str [97], .slice none 0 0]) :: _) _
  refine yG ?_
  refine OS.call noGo rfl (fun _ => rfl) ((Print_ct (hG.mono fun p hp => List.mem_cons_of_mem _ hp) (D := pA) (pA_v ra) pA_b).mono ?_)
  rw [pA_is]
  rintro u L2 ⟨⟨rfl, _⟩, Z, rfl⟩
  refine ⟨_, rfl, ?_⟩
  refine OS.sub (sub_front Z) ?_
  refine OS.sub (Sub.drop 0 rfl) ?_
  refine yG ?_
  refine OS.fresh rfl (e_new (fun _ => rfl) rfl) (fun _ => rfl) (fun rl => ?_)
  refine OS.opened 116 0 (sz := 1) rfl rfl rfl (by simp) (by decide) rfl ?_
  show OS _ _ _ _ ((rl, ARow.cells 9 (strs [[97]])) :: _) _
  refine yG ?_
  refine OS.fresh rfl (e_new (fun _ => rfl) rfl) (fun _ => rfl) (fun rh => ?_)
  show OS _ _ _ _ ((rh, ARow.cells tI [.int .i64 0, str [106, 111, 98], .slice (some ⟨rl, 0, none⟩) 1 openCap]) :: _) _
  refine yG ?_
  refine OS.call noGo rfl (fun _ => rfl) ((Print_ct (hG.mono fun p hp => List.mem_cons_of_mem _ (List.mem_cons_of_mem _ hp)) (D := pB) (pB_v rh rl) pB_b).mono ?_)
  rw [pB_is]
  rintro u L2 ⟨⟨rfl, _⟩, Z2, rfl⟩
  refine ⟨_, rfl, ?_⟩
  refine OS.sub (sub_front Z2) ?_
  refine OS.sub (Sub.drop 0 rfl) ?_
  refine OS.sub (Sub.drop 0 rfl) ?_
  refine yG ?_
  refine OS.fresh rfl (e_new (fun _ => rfl) rfl) (fun _ => rfl) (fun rc => ?_)
  show OS _ _ _ _ ((rc, ARow.cells tI [.int .i64 0, str [], .slice none 0 0]) :: _) _
  refine yG ?_
  refine OS.call noGo rfl (fun _ => rfl) ((Print_ct (hG.mono fun p hp => List.mem_cons_of_mem _ hp) (D := pC) (pC_v rc) pC_b).mono ?_)
  rw [pC_is]
  rintro u L2 ⟨⟨rfl, _⟩, Z3, rfl⟩
  refine ⟨_, rfl, ?_⟩
  refine OS.sub (sub_front Z3) ?_
  refine OS.sub (Sub.drop 0 rfl) ?_
  refine yG ?_
  refine OS.call noGo rfl (fun _ => rfl) ((awake_ct hG).mono ?_)
  rintro v L' ⟨rfl, _⟩
  refine ⟨_, rfl, ?_⟩
  refine yG ?_
  rfl
end
end Go.Proofs.YtoadplnbajmcbaaGreatDoor
