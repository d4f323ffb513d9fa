/- Layer 12: DescRemarks' law. -/
import Derived.Test.YtoadplnbajmcbaaGreatDoorQgM
import Derived.Test.YtoadplnbajmcbaaGreatDoorQk
namespace Go.Proofs.YtoadplnbajmcbaaGreatDoor
open Go.Am Go.Pd
set_option linter.unusedVariables false
set_option maxRecDepth 20000
set_option maxHeartbeats 8000000
attribute [local irreducible] OS LSr ODS CS YS
theorem n_isJ (n m : Nat) : ieqB ((n : Nat) : Int) (m : Nat) = (n == m) := by rw [ieqB_eq, Bool.eq_iff_iff]; simp; omega
theorem hash_sp {r : W} (h : 10 ∉ r) : splitW (35 :: r) = some [] := by
  unfold splitW
  rw [dw_not (by decide), spl_hash, if_neg (by simpa using h)]
theorem rem_sp1 {r : W} (h : 10 ∉ r) (hl : r.length ≤ 200) : spD (35 :: r) = .ok [] := by
  unfold spD; rw [if_neg (by simp; omega), hash_sp h]
theorem rem_sp2 : spD [32] = .ok [] := by kernel_rfl
theorem rem_sp3 {r : W} (h : 10 ∉ r) (hl : r.length ≤ 100) : spD (9 :: 35 :: 32 :: r) = .ok [] := by
  unfold spD; rw [if_neg (by simp; omega)]
  have e : splitW (9 :: 35 :: 32 :: r) = splitW (35 :: 32 :: r) := by unfold splitW; rw [List.dropWhile_cons]; rfl
  rw [e, hash_sp (by simp [h])]
theorem ins_len (r : W) (hr : r.length ≤ 100) : ∀ (t : W) (pl : List UInt8), (ins r pl t).length ≤ t.length * 200
  | [], _ => by simp [ins]
  | c :: t, pl => by
    have hf : (filler r pl).length ≤ 150 := by
      unfold filler
      split
      · simp
      · split
        · simp; omega
        · split
          · simp; omega
          · simp
    have h1 := ins_len r hr t pl.tail
    have h2 := ins_len r hr t pl
    unfold ins
    split
    · simp; omega
    · simp; omega
theorem descRemarks_ct {F M : RL} {g : Gn} (hG : GL g F) {text rem : W} {pv : Value} {pl : List UInt8} (hp : SV 1 M pv pl.length (byteCells pl)) (hM : ∀ p, p ∈ M → p ∈ F) (ht : text.length ≤ 9000000000000000) (hr : rem.length ≤ 9000000000000000) :
    CS Tryz.prog 8 [str text, str rem, pv] F fun v L' => v = .bool true := by
  obtain ⟨pA, pc, rfl⟩ := hp.form
  have hpF := hp.up hM
  refine CS.mk (fn := Tryz.f8) rfl rfl rfl rfl ?_
  have hbig : ((!ileB ((text.length : Nat) : Int) 5000) = true ∨ ((!ileB ((text.length : Nat) : Int) 5000) = false ∧ (!ileB ((rem.length : Nat) : Int) 100) = true) ∨ ((!ileB ((text.length : Nat) : Int) 5000) = false ∧ (!ileB ((rem.length : Nat) : Int) 100) = false ∧ (!ileB ((pl.length : Nat) : Int) 100) = true)) ∨
      ((!ileB ((text.length : Nat) : Int) 5000) = false ∧ (!ileB ((rem.length : Nat) : Int) 100) = false ∧ (!ileB ((pl.length : Nat) : Int) 100) = false ∧ text.length ≤ 5000 ∧ rem.length ≤ 100 ∧ pl.length ≤ 100) := by
    rcases tf (!ileB ((text.length : Nat) : Int) 5000) with h1 | h1
    · exact .inl (.inl h1)
    rcases tf (!ileB ((rem.length : Nat) : Int) 100) with h2 | h2
    · exact .inl (.inr (.inl ⟨h1, h2⟩))
    rcases tf (!ileB ((pl.length : Nat) : Int) 100) with h3 | h3
    · exact .inl (.inr (.inr ⟨h1, h2, h3⟩))
    refine .inr ⟨h1, h2, h3, ?_, ?_, ?_⟩
    · rw [ileB_eq] at h1; simp at h1; omega
    · rw [ileB_eq] at h2; simp at h2; omega
    · rw [ileB_eq] at h3; simp at h3; omega
  rcases hbig with hbig | ⟨h1, h2, h3, hl1, hl2, hl3⟩
  · rcases hbig with h1 | ⟨h1, h2⟩ | ⟨h1, h2, h3⟩
    all_goals
      refine yG ?_
      refine OS.call noGo rfl (fun _ => rfl) ((awake_ct hG).mono ?_)
      rintro v L' ⟨rfl, _⟩
      refine ⟨_, rfl, ?_⟩
      refine yG ?_
      rfl
  refine yG ?_
  refine OS.call noGo rfl (fun _ => rfl) ((awake_ct hG).mono ?_)
  rintro v L' ⟨rfl, Z, rfl⟩
  have hG : GL g (Z ++ F) := hG.mono fun p hp => List.mem_append_right _ hp
  have hpF : SV 1 (Z ++ F) (.slice pA pl.length pc) pl.length (byteCells pl) := hpF.up fun p hp => List.mem_append_right _ hp
  generalize Z ++ F = L at hG hpF
  refine ⟨_, rfl, ?_⟩
  refine yG ?_
  refine LS.loopJ [0, 1, 2, 7] (fun q a L' => ∃ j : Nat, q = rem.length - j ∧ j ≤ rem.length ∧ 10 ∉ rem.take j ∧ L' = L ∧ a = [str text, str rem, .slice pA pl.length pc, .chan none, .chan none, .chan none, .chan none, .int .i64 (j : Nat), .chan none, .chan none, .chan none, .chan none, .chan none, .chan none, .chan none, .chan none, .chan none, .chan none, .chan none, .chan none, .chan none, .chan none, .chan none, .chan none, .chan none, .chan none, .chan none, .chan none, .chan none, .chan none, .chan none, .chan none, .chan none, .chan none, .chan none, .chan none, .chan none, .chan none, .chan none, .chan none, .chan none, .chan none, .chan none, .chan none, .chan none, .chan none, .chan none, .chan none, .chan none, .chan none, .chan none, .chan none, .chan none, .chan none, .chan none, .chan none, .chan none, .chan none, .chan none, .chan none, .chan none, .chan none, .chan none, .chan none, .chan none, .chan none, .chan none, .chan none, .chan none, .chan none, .chan none, .chan none, .chan none, .chan none, .chan none, .chan none, .chan none, .chan none, .chan none, .chan none, .chan none, .chan none, .chan none, .chan none, .chan none, .chan none, .chan none, .chan none, .chan none, .chan none, .chan none, .chan none, .chan none, .chan none, .chan none, .chan none, .chan none, .chan none, .chan none, .chan none, .chan none, .chan none, .chan none, .chan none, .chan none, .chan none, .chan none, .chan none, .chan none, .chan none, .chan none, .chan none, .chan none, .chan none, .chan none, .chan none, .chan none, .chan none, .chan none, .chan none, .chan none, .chan none, .chan none, .chan none]) (n := rem.length) rfl ⟨0, rfl, by omega, by simp, rfl, rfl⟩ ?_
  rintro q a L' ⟨j, rfl, hj, h10, rfl, rfl⟩
  by_cases hjn : j < rem.length
  · have hb : (!ileB ((rem.length : Nat) : Int) (j : Nat)) = true := by rw [ileB_eq]; simp; omega
    have hbj : rem[j]? = some rem[j] := List.getElem?_eq_getElem hjn
    generalize rem[j] = b at hbj
    by_cases hb10 : b = 10
    · have hc : ieqB ((b.toNat : Nat) : Int) 10 = true := by rw [hb10]; rfl
      refine yG ?_
      rfl
    · have hc : ieqB ((b.toNat : Nat) : Int) 10 = false := by rw [cmp_u8 (k := 10) b 10 rfl]; simpa using hb10
      refine yG ?_
      exact ⟨rem.length - (j + 1), by omega, j + 1, rfl, by omega, by rw [Go.Pd.take_one hbj]; simp only [List.mem_append, List.mem_singleton, not_or]; exact ⟨h10, fun h => hb10 h.symm⟩, rfl, rfl⟩
  have hb : (!ileB ((rem.length : Nat) : Int) (j : Nat)) = false := by rw [ileB_eq]; simp; omega
  rw [List.take_of_length_le (by omega)] at h10
  refine yG ?_
  refine LS.exit ?_
  refine yG ?_
  refine LS.loopJ [0, 1, 2, 8, 9, 10] (fun q a M => ∃ (i k : Nat) (out : W), q = text.length - i ∧ i ≤ text.length ∧ k ≤ i ∧ out.length ≤ i * 200 ∧ out ++ ins rem (pl.drop k) (text.drop i) = ins rem pl text ∧ M = L' ∧ a = [str text, str rem, .slice pA pl.length pc, .chan none, .chan none, .chan none, .chan none, .chan none, str out, .int .i64 (k : Nat), .int .i64 (i : Nat), .chan none, .chan none, .chan none, .chan none, .chan none, .chan none, .chan none, .chan none, .chan none, .chan none, .chan none, .chan none, .chan none, .chan none, .chan none, .chan none, .chan none, .chan none, .chan none, .chan none, .chan none, .chan none, .chan none, .chan none, .chan none, .chan none, .chan none, .chan none, .chan none, .chan none, .chan none, .chan none, .chan none, .chan none, .chan none, .chan none, .chan none, .chan none, .chan none, .chan none, .chan none, .chan none, .chan none, .chan none, .chan none, .chan none, .chan none, .chan none, .chan none, .chan none, .chan none, .chan none, .chan none, .chan none, .chan none, .chan none, .chan none, .chan none, .chan none, .chan none, .chan none, .chan none, .chan none, .chan none, .chan none, .chan none, .chan none, .chan none, .chan none, .chan none, .chan none, .chan none, .chan none, .chan none, .chan none, .chan none, .chan none, .chan none, .chan none, .chan none, .chan none, .chan none, .chan none, .chan none, .chan none, .chan none, .chan none, .chan none, .chan none, .chan none, .chan none, .chan none, .chan none, .chan none, .chan none, .chan none, .chan none, .chan none, .chan none, .chan none, .chan none, .chan none, .chan none, .chan none, .chan none, .chan none, .chan none, .chan none, .chan none, .chan none, .chan none, .chan none, .chan none]) (n := text.length) rfl ⟨0, 0, [], rfl, by omega, by omega, by simp, rfl, rfl, rfl⟩ ?_
  rintro q a M ⟨i, k, out, rfl, hi, hk, hol, hins, rfl, rfl⟩
  by_cases hin : i < text.length
  · have hb2 : (!ileB ((text.length : Nat) : Int) (i : Nat)) = true := by rw [ileB_eq]; simp; omega
    have hbi : text[i]? = some text[i] := List.getElem?_eq_getElem hin
    have hdrop : text.drop i = text[i] :: text.drop (i + 1) := List.drop_eq_getElem_cons hin
    generalize text[i] = c at hbi hdrop
    have hone : (text.drop i).take (i + 1 - i) = [c] := by rw [hdrop, show i + 1 - i = 1 by omega]; rfl
    rw [hdrop, ins] at hins
    refine yG ?_
    refine OS.pure rfl (e_part (l := i) (u := i + 1) rfl rfl rfl rfl bound_nat bound_nat rfl (by omega) (by omega)) rfl ?_
    rw [hone]
    refine OS.pure rfl (e_cat (xs := out) (ys := [c]) rfl rfl rfl (by simp; omega)) rfl ?_
    by_cases hc10 : c = 10
    rotate_left
    · have hc : ieqB ((c.toNat : Nat) : Int) 10 = false := by rw [cmp_u8 (k := 10) c 10 rfl]; simpa using hc10
      rw [if_neg hc10] at hins
      refine yG ?_
      exact ⟨text.length - (i + 1), by omega, i + 1, k, out ++ [c], rfl, by omega, by omega, by simp; omega, by rw [← hins]; simp, rfl, rfl⟩
    have hc : ieqB ((c.toNat : Nat) : Int) 10 = true := by rw [hc10]; rfl
    rw [if_pos hc10] at hins
    by_cases hkp : k < pl.length
    rotate_left
    · have hkb : (!ileB ((pl.length : Nat) : Int) (k : Nat)) = false := by rw [ileB_eq]; simp; omega
      rw [List.drop_eq_nil_of_le (by omega : pl.length ≤ k), filler, List.tail_nil, List.nil_append] at hins
      refine yG ?_
      exact ⟨text.length - (i + 1), by omega, i + 1, k + 1, out ++ [c], rfl, by omega, by omega, by simp; omega, by rw [List.drop_eq_nil_of_le (by omega : pl.length ≤ k + 1), ← hins]; simp, rfl, rfl⟩
    have hkb : (!ileB ((pl.length : Nat) : Int) (k : Nat)) = true := by rw [ileB_eq]; simp; omega
    have hpk : pl[k]? = some pl[k] := List.getElem?_eq_getElem hkp
    have hpd : pl.drop k = pl[k] :: pl.drop (k + 1) := List.drop_eq_getElem_cons hkp
    generalize pl[k] = p at hpk hpd
    have hcell : (byteCells pl)[k]? = some (.int .u8 (p.toNat : Nat)) := by simp [byteCells, hpk]
    rw [hpd, filler, List.tail_cons] at hins
    refine yG ?_
    refine OS.at1 (j := k) (hpF) (hcell) rfl rfl rfl rfl rfl rfl (fun ra0 oa0 rowa0 csa0 ma0 ca0 ga0 => ⟨_, rfl, ?_⟩)
    refine OS.read rfl (e_loadm ma0 ca0 rfl rfl (part_one rfl ga0)) rfl ?_
    refine OS.pure rfl (e_rem (m := p.toNat) (n := 3) rfl rfl rfl (by decide)) rfl ?_
    by_cases hm1 : p.toNat % 3 = 1
    · have hq1 : ieqB ((p.toNat % 3 : Nat) : Int) 1 = true := by rw [hm1]; rfl
      have hq2 : ieqB ((p.toNat % 3 : Nat) : Int) 2 = false := by rw [hm1]; rfl
      rw [if_pos hm1] at hins
      refine yG ?_
      refine OS.pure rfl (e_cat (xs := out ++ [c]) (ys := [35]) rfl rfl rfl (by simp; omega)) rfl ?_
      refine yG ?_
      refine OS.pure rfl (e_cat (xs := out ++ [c] ++ [35]) (ys := rem) rfl rfl rfl (by simp; omega)) rfl ?_
      refine OS.pure rfl (e_cat (xs := out ++ [c] ++ [35] ++ rem) (ys := [10]) rfl rfl rfl (by simp; omega)) rfl ?_
      refine yG ?_
      refine OS.at1 (j := k) (hpF) (hcell) rfl rfl rfl rfl rfl rfl (fun ra0 oa0 rowa0 csa0 ma0 ca0 ga0 => ⟨_, rfl, ?_⟩)
      refine OS.read rfl (e_loadm ma0 ca0 rfl rfl (part_one rfl ga0)) rfl ?_
      refine OS.pure rfl (e_rem (m := p.toNat) (n := 3) rfl rfl rfl (by decide)) rfl ?_
      refine yG ?_
      exact ⟨text.length - (i + 1), by omega, i + 1, k + 1, out ++ [c] ++ [35] ++ rem ++ [10], rfl, by omega, by omega, by simp; omega, by rw [← hins]; simp, rfl, rfl⟩
    have hq1 : ieqB ((p.toNat % 3 : Nat) : Int) 1 = false := by rw [show (1 : Int) = ((1 : Nat) : Int) from rfl, n_isJ]; simpa using hm1
    rw [if_neg hm1] at hins
    by_cases hm2 : p.toNat % 3 = 2
    · have hq2 : ieqB ((p.toNat % 3 : Nat) : Int) 2 = true := by rw [hm2]; rfl
      rw [if_pos hm2] at hins
      refine yG ?_
      refine OS.at1 (j := k) (hpF) (hcell) rfl rfl rfl rfl rfl rfl (fun ra0 oa0 rowa0 csa0 ma0 ca0 ga0 => ⟨_, rfl, ?_⟩)
      refine OS.read rfl (e_loadm ma0 ca0 rfl rfl (part_one rfl ga0)) rfl ?_
      refine OS.pure rfl (e_rem (m := p.toNat) (n := 3) rfl rfl rfl (by decide)) rfl ?_
      refine yG ?_
      refine OS.pure rfl (e_cat (xs := out ++ [c]) (ys := [32, 10, 9, 35, 32]) rfl rfl rfl (by simp; omega)) rfl ?_
      refine yG ?_
      refine OS.pure rfl (e_cat (xs := out ++ [c] ++ [32, 10, 9, 35, 32]) (ys := rem) rfl rfl rfl (by simp; omega)) rfl ?_
      refine OS.pure rfl (e_cat (xs := out ++ [c] ++ [32, 10, 9, 35, 32] ++ rem) (ys := [10]) rfl rfl rfl (by simp; omega)) rfl ?_
      refine yG ?_
      exact ⟨text.length - (i + 1), by omega, i + 1, k + 1, out ++ [c] ++ [32, 10, 9, 35, 32] ++ rem ++ [10], rfl, by omega, by omega, by simp; omega, by rw [← hins]; simp, rfl, rfl⟩
    have hq2 : ieqB ((p.toNat % 3 : Nat) : Int) 2 = false := by rw [show (2 : Int) = ((2 : Nat) : Int) from rfl, n_isJ]; simpa using hm2
    rw [if_neg hm2] at hins
    refine yG ?_
    refine OS.at1 (j := k) (hpF) (hcell) rfl rfl rfl rfl rfl rfl (fun ra0 oa0 rowa0 csa0 ma0 ca0 ga0 => ⟨_, rfl, ?_⟩)
    refine OS.read rfl (e_loadm ma0 ca0 rfl rfl (part_one rfl ga0)) rfl ?_
    refine OS.pure rfl (e_rem (m := p.toNat) (n := 3) rfl rfl rfl (by decide)) rfl ?_
    refine yG ?_
    exact ⟨text.length - (i + 1), by omega, i + 1, k + 1, out ++ [c], rfl, by omega, by omega, by simp; omega, by rw [← hins]; simp, rfl, rfl⟩
  have hb2 : (!ileB ((text.length : Nat) : Int) (i : Nat)) = false := by rw [ileB_eq]; simp; omega
  rw [List.drop_eq_nil_of_le (by omega : text.length ≤ i), ins, List.append_nil] at hins
  subst hins
  have hil := ins_len rem hl2 text pl
  have hsm := remarks chk spD h10 (rem_sp1 h10 (by omega)) rem_sp2 (rem_sp3 h10 hl2) (rem_sp1 (r := 32 :: rem) (by simp [h10]) (by simp; omega)) text pl
  have e0 : [35, 32] ++ rem ++ [10] ++ ins rem pl text = (35 :: 32 :: rem) ++ 10 :: ins rem pl text := by simp
  have hRR : pdE (RD text) = pdE (RD ([35, 32] ++ rem ++ [10] ++ ins rem pl text)) ∧ (pdD (RD text)).er = (pdD (RD ([35, 32] ++ rem ++ [10] ++ ins rem pl text))).er := by
    rw [e0]
    have hs2 : Smr (RD text) (RD ((35 :: 32 :: rem) ++ 10 :: ins rem pl text)) := hsm
    cases h1 : RD text with
    | error e1 =>
      cases h2 : RD ((35 :: 32 :: rem) ++ 10 :: ins rem pl text) with
      | error e2 => rw [h1, h2] at hs2; exact ⟨hs2, rfl⟩
      | ok d2 => rw [h1, h2] at hs2; exact hs2.elim
    | ok d1 =>
      cases h2 : RD ((35 :: 32 :: rem) ++ 10 :: ins rem pl text) with
      | error e2 => rw [h1, h2] at hs2; exact hs2.elim
      | ok d2 => rw [h1, h2] at hs2; exact ⟨rfl, hs2⟩
  clear hsm
  have hf1 := rd_fit text
  have hf2 := rd_fit ([35, 32] ++ rem ++ [10] ++ ins rem pl text)
  refine yG ?_
  refine LS.exit ?_
  refine yG ?_
  refine OS.call noGo rfl (fun _ => rfl) ((Parse_all hG (by omega : text.length ≤ 1000000000000)).mono ?_)
  rintro u L2 ⟨A1, c1, B1, d1, Z1, rfl, rfl, hV1⟩
  refine ⟨_, rfl, ?_⟩
  refine yG ?_
  refine OS.fresh rfl (e_new (fun _ => rfl) rfl) (fun _ => rfl) (fun r11 => ?_)
  show OS _ _ _ _ ((r11, ARow.cells tD [.slice none 0 0, .slice none 0 0]) :: _) _
  refine yG ?_
  refine OS.pure rfl (e_cat (xs := [35, 32]) (ys := rem) rfl rfl rfl (by simp; omega)) rfl ?_
  refine OS.pure rfl (e_cat (xs := [35, 32] ++ rem) (ys := [10]) rfl rfl rfl (by simp; omega)) rfl ?_
  refine yG ?_
  refine OS.pure rfl (e_cat (xs := [35, 32] ++ rem ++ [10]) (ys := ins rem pl text) rfl rfl rfl (by simp; omega)) rfl ?_
  have ht2 : ([35, 32] ++ rem ++ [10] ++ ins rem pl text).length ≤ 1000000000000 := by simp; omega
  generalize [35, 32] ++ rem ++ [10] ++ ins rem pl text = t2 at hRR hf2 ht2 ⊢
  refine OS.call noGo rfl (fun _ => rfl) ((Parse_all (hG.mono fun p hp => by simp [hp]) ht2).mono ?_)
  rintro u L2 ⟨A2, c2, B2, d2, Z2, rfl, rfl, hV2⟩
  generalize hR1 : RD text = R1 at *
  generalize hR2 : RD t2 = R2 at *
  have heb : ieqB ((pdE R1 : Nat) : Int) ((pdE R2 : Nat) : Int) = true := by rw [hRR.1, ieqB_eq]; simp
  have hsame := sameD_er.2 hRR.2
  refine ⟨_, rfl, ?_⟩
  refine yG ?_
  refine OS.fresh rfl (e_new (fun _ => rfl) rfl) (fun _ => rfl) (fun r14 => ?_)
  show OS _ _ _ _ ((r14, ARow.cells tD [.slice none 0 0, .slice none 0 0]) :: _) _
  refine yG ?_
  repeat refine LS.seq ?_
  refine LS.drawn noGo mixed [(0, false), (1, false), (2, false), (3, false), (4, false), (6, false), (5, true), (7, true), (8, true), (9, false), (10, false)] rfl rfl (by kernel_rfl) ?_
  refine yG ?_
  refine ODS.read rfl rfl (e_loadm (r := r11) (List.mem_cons_of_mem _ (List.mem_append_right _ (List.mem_cons_self ..))) rfl rfl rfl rfl) rfl ?_
  refine yG ?_
  refine ODS.call rfl rfl (fun _ => rfl) ((back_ct hV1.a (fun p hp => by rcases List.mem_append.1 hp with h | h <;> simp [h]) (fit_k hf1).1).mono ?_)
  rintro u L2 ⟨Z3, rfl, hA1⟩
  obtain ⟨A3, c3, B3, d3, rfl⟩ := hA1.form
  refine ⟨_, rfl, ?_, ?_⟩
  · exact Keep.cons rfl (e_loadm (r := r14) (List.mem_append_right _ (List.mem_cons_self ..)) rfl rfl rfl rfl) (Keep.gone rfl Keep.nil)
  refine ODS.call rfl rfl (fun _ => rfl) ((back_ct hV2.a (fun p hp => by simp only [List.mem_append, List.mem_cons] at hp ⊢; simp [hp]) (fit_k hf2).1).mono ?_)
  rintro u L2 ⟨Z4, rfl, hA2⟩
  obtain ⟨A4, c4, B4, d4, rfl⟩ := hA2.form
  refine ⟨_, rfl, ?_, ?_⟩
  · exact Keep.gone rfl (Keep.gone rfl Keep.nil)
  refine ODS.call rfl rfl (fun _ => rfl) ((Same12_ct false hA1 (fun p hp => List.mem_append_right _ hp) hA2 (fun p hp => hp) (fit_k hf1).2).mono ?_)
  rintro v L2 ⟨rfl, rfl⟩
  refine ⟨_, rfl, ?_, ?_⟩
  · exact Keep.gone rfl (Keep.gone rfl Keep.nil)
  rw [hsame]
  refine yG ?_
  rfl
end Go.Proofs.YtoadplnbajmcbaaGreatDoor
