/- Layer 14: Parse, the program's and the document's. -/
import Derived.Test.YtllcbjaajffaeaaMe
namespace Go.Proofs.Ytllcbjaajffaeaa
open Go.Am Go.Mx
set_option linter.unusedVariables false
set_option linter.unusedSimpArgs false
set_option maxRecDepth 20000
set_option maxHeartbeats 4000000
attribute [local irreducible] OS LSr ODS CS
theorem Parse_ct {L : RL} (s : W) (hn : s.length ≤ 8000000000000) : CS Try.prog 21 [str s] L (ParseR L (ps 58 [] s)) := by
  suffices h : CS Try.prog 21 [str s] L fun v L' => ∃ L₁, Sub L₁ L' ∧ ParseR L (ps 58 [] s) v L₁ from h.less fun v L' h => h
  have hps := ps_take 58 (by decide) s.length s [] (Nat.le_refl _)
  refine CS.mk (fn := Try.f21) rfl rfl rfl rfl ?_
  refine yG ?_
  refine OS.fresh rfl (e_new (fun _ => rfl) rfl) (fun _ => rfl) (fun r5 => ?_)
  refine yG ?_
  show OS _ _ _ _ ((r5, pRow s false) :: L) _
  refine OS.call noGo rfl (fun _ => rfl) ((take_ct 58 (by decide) (by omega)).mono ?_)
  intro v' L2 ht
  cases htk : Mx.take 58 s with
  | none =>
    rw [htk] at ht hps
    obtain ⟨rfl, Z, rfl⟩ := ht
    rw [hps]
    refine yG ?_
    exact ⟨Z ++ L, Sub.drops 0 rfl, rfl, Z, rfl⟩
  | some x =>
    obtain ⟨n, y⟩ := x
    have key : ∃ (rest : W) (more : Bool), v' = .tuple #[str n, .int .i64 0] ∧ L2 = (r5, pRow rest more) :: L ∧ ps 58 [] s = (if more then (ps 44 [] rest).map ([n] ++ ·) else some [n]) ∧ (more = true → 0 + rest.length + 1 ≤ s.length) := by
      cases y with
      | none =>
        rw [htk] at ht hps
        exact ⟨[], false, ht.1, ht.2, by rw [hps]; simp, fun h => by cases h⟩
      | some r =>
        rw [htk] at ht hps
        have := take_len 58 s.length s n r (Nat.le_refl _) htk
        exact ⟨r, true, ht.1, ht.2, by rw [hps]; simp, fun _ => by omega⟩
    clear ht hps
    obtain ⟨rest, more, rfl, rfl, hps, hlen⟩ := key
    refine yG ?_
    refine LS.loopJ [5, 6, 8] (fun q a L' => ∃ (rest : W) (more : Bool) (dn : List W) (rv : Value) (LL : RL), q = (if more then rest.length + 1 else 0) ∧ ps 58 [] s = (if more then (ps 44 [] rest).map ((n :: dn) ++ ·) else some (n :: dn)) ∧ (more = true → dn.length + rest.length + 1 ≤ s.length) ∧ dn.length ≤ s.length ∧ GV 9 1 L rv dn.length (strs dn) LL ∧ L' = (r5, pRow rest more) :: LL ∧ a = [.chan none, .chan none, .chan none, .chan none, .chan none, ptr r5, str n, .chan none, rv, .chan none, .chan none, .chan none, .chan none, .chan none, .chan none, .chan none, .chan none, .chan none, .chan none, .chan none, .chan none, .chan none, .chan none, .chan none, .chan none, .chan none, .chan none, .chan none, .chan none, .chan none, .chan none, .chan none, .chan none, .chan none, .chan none]) (n := if more then rest.length + 1 else 0) rfl ⟨rest, more, [], _, L, rfl, hps, fun h => by have := hlen h; simp; omega, by simp, .nil, rfl, rfl⟩ ?_
    clear hps hlen htk
    rintro q a L' ⟨rest, more, dn, rv, LL, rfl, hps, hlen, hdl, hg, rfl, rfl⟩
    cases more with
    | true =>
      have hlen := hlen rfl
      rw [if_pos rfl] at hps
      have hps2 := ps_take 44 (by decide) rest.length rest [] (Nat.le_refl _)
      refine yG ?_
      refine OS.call noGo rfl (fun _ => rfl) ((take_ct 44 (by decide) (by omega)).mono ?_)
      intro v' L2 ht
      cases htk : Mx.take 44 rest with
      | none =>
        rw [htk] at ht hps2
        obtain ⟨rfl, Z, rfl⟩ := ht
        rw [hps2] at hps
        rw [hps]
        refine yG ?_
        obtain ⟨Z2, rfl⟩ := gv_ends hg
        exact ⟨Z ++ (Z2 ++ L), Sub.drops 0 rfl, rfl, Z ++ Z2, by simp⟩
      | some x =>
        obtain ⟨p, y⟩ := x
        have key : ∃ (rest2 : W) (more2 : Bool), v' = .tuple #[str p, .int .i64 0] ∧ L2 = (r5, pRow rest2 more2) :: LL ∧ ps 58 [] s = (if more2 then (ps 44 [] rest2).map ((n :: (dn ++ [p])) ++ ·) else some (n :: (dn ++ [p]))) ∧ (more2 = true → rest2.length < rest.length) := by
          cases y with
          | none =>
            rw [htk] at ht hps2
            exact ⟨[], false, ht.1, ht.2, by rw [hps, hps2]; simp, fun h => by cases h⟩
          | some r =>
            rw [htk] at ht hps2
            have := take_len 44 rest.length rest p r (Nat.le_refl _) htk
            refine ⟨r, true, ht.1, ht.2, ?_, fun _ => by omega⟩
            rw [hps, hps2, if_pos rfl, Option.map_map]
            congr 1
            funext x
            simp
        clear ht hps2 hps
        obtain ⟨rest2, more2, rfl, rfl, hps, hlt⟩ := key
        refine yG ?_
        refine OS.fresh rfl (e_new (fun _ => rfl) rfl) (fun _ => rfl) (fun rn => ?_)
        refine OS.fresh rfl (e_appendGV [_, _] (m := 1) (sz := 1) (bts := 16) hg (SV.row (sz := 1) (n := 1) (List.mem_cons_self ..) rfl) (by omega) rfl rfl rfl rfl (by omega) (by omega)) (fun _ => rfl) (fun r2 => ?_)
        refine OS.sub (Sub.drop 1 rfl) ?_
        refine OS.sub (Sub.pulls [1] rfl) ?_
        refine yG ?_
        refine ⟨if more2 then rest2.length + 1 else 0, ?_, rest2, more2, dn ++ [p], _, _, rfl, hps, fun h => ?_, by simp; omega, ?_, rfl, rfl⟩
        · cases more2 with
          | true => have := hlt rfl; simp; omega
          | false => simp
        · have := hlt h; simp; omega
        · rw [strs_snoc, List.length_append]
          exact GV.of (by rw [List.length_append, strs_len]; simp)
    | false =>
      rw [if_neg (by simp)] at hps
      rw [hps]
      refine yG ?_
      refine LS.exit ?_
      have hf : ∃ A c, rv = .slice A dn.length c := by
        rcases hg with ⟨rfl, h0, _, _⟩ | ⟨r, rfl, _, _⟩
        · exact ⟨_, _, by rw [h0]⟩
        · exact ⟨_, _, rfl⟩
      obtain ⟨A, c, rfl⟩ := hf
      refine yG ?_
      exact ⟨LL, Sub.tail, A, c, rfl, hg⟩
theorem refParse_ct {L : RL} (s : W) (hn : s.length ≤ 8000000000000) : CS Try.prog 22 [str s] L (ParseR L (ps 58 [] s)) := by
  refine CS.mk (fn := Try.f22) rfl rfl rfl rfl ?_
  refine yG ?_
  refine LS.loopJ [0, 5, 6, 7, 8, 9] (fun q a L' => ∃ (i : Nat) (nm part : W) (val : Bool) (dn : List W) (rv : Value), q = s.length - i ∧ i ≤ s.length ∧ part.length ≤ i ∧ dn.length ≤ i ∧ ps 58 [] s = (if val then (ps 44 part (s.drop i)).map ((nm :: dn) ++ ·) else ps 58 part (s.drop i)) ∧ (val = false → dn = []) ∧ GV 9 1 L rv dn.length (strs dn) L' ∧ a = [str s, .chan none, .chan none, .chan none, .chan none, str nm, rv, str part, .bool val, .int .i64 (i : Nat), .chan none, .chan none, .chan none, .chan none, .chan none, .chan none, .chan none, .chan none, .chan none, .chan none, .chan none, .chan none, .chan none, .chan none, .chan none, .chan none, .chan none, .chan none, .chan none, .chan none, .chan none, .chan none, .chan none, .chan none, .chan none, .chan none, .chan none, .chan none, .chan none, .chan none, .chan none, .chan none, .chan none, .chan none, .chan none, .chan none, .chan none, .chan none, .chan none, .chan none, .chan none, .chan none, .chan none, .chan none, .chan none, .chan none, .chan none, .chan none, .chan none, .chan none, .chan none, .chan none, .chan none, .chan none, .chan none, .chan none, .chan none, .chan none, .chan none, .chan none, .chan none, .chan none, .chan none, .chan none, .chan none, .chan none]) (n := s.length) rfl ⟨0, [], [], false, [], _, rfl, by omega, by simp, by simp, by simp, fun _ => rfl, .nil, rfl⟩ ?_
  rintro q a L' ⟨i, nm, part, val, dn, rv, rfl, hi, hpl, hdl, hps, hv0, hg, rfl⟩
  by_cases hlt : i < s.length
  · obtain ⟨c, hck⟩ := ext_list (l := s) (k := i) hlt
    have hdrop : s.drop i = c :: s.drop (i + 1) := by
      rw [List.drop_eq_getElem_cons hlt]; congr 1; exact (List.getElem?_eq_some_iff.1 hck).2
    rw [hdrop] at hps
    have hb : (!ileB ((s.length : Nat) : Int) (i : Nat)) = true := by rw [ileB_eq]; simp; omega
    have hone : (s.drop i).take (i + 1 - i) = [c] := by rw [hdrop, show i + 1 - i = 1 by omega]; rfl
    have hv : val = true ∨ val = false := tf val
    rcases tf (ieqB (c.toNat : Nat) 92) with h2 | h2
    · obtain rfl : c = 92 := by
        have h9 := h2
        rw [cmp_u8 (k := 92) c 92 rfl] at h9
        simpa using h9
      cases hs2 : s.drop (i + 1) with
      | nil =>
        have hi2 : i + 1 = s.length := by
          have := congrArg List.length hs2
          simp at this; omega
        have hb2 : ileB ((s.length : Nat) : Int) ((i + 1 : Nat) : Int) = true := by rw [ileB_eq]; simp; omega
        have hn : ps 58 [] s = none := by
          rw [hps, hs2]
          rcases hv with rfl | rfl
          · rw [if_pos rfl, ps_q0 (by decide)]; rfl
          · rw [if_neg (by simp), ps_q0 (by decide)]
        rw [hn]
        rcases hv with rfl | rfl
        all_goals
          refine yG ?_
          exact ⟨rfl, gv_ends hg⟩
      | cons d s2 =>
        have hlt2 : i + 1 < s.length := by
          have := congrArg List.length hs2
          simp at this; omega
        have hd : s[i + 1]? = some d := by
          have : (s.drop (i + 1))[0]? = some d := by rw [hs2]; rfl
          simpa using this
        have hs3 : s.drop (i + 1 + 1) = s2 := by rw [← List.drop_drop, hs2]; rfl
        have hone2 : (s.drop (i + 1)).take (i + 1 + 1 - (i + 1)) = [d] := by rw [hs2, show i + 1 + 1 - (i + 1) = 1 by omega]; rfl
        have hb2 : ileB ((s.length : Nat) : Int) ((i + 1 : Nat) : Int) = false := by rw [ileB_eq]; simp; omega
        rw [hs2] at hps
        rcases hv with rfl | rfl
        · rw [if_pos rfl, ps_q (by decide)] at hps
          have hq : isQ d 44 = (ieqB (d.toNat : Nat) 92 || ieqB (d.toNat : Nat) 44) := by rw [cmp_u8 (k := 92) d 92 rfl, cmp_u8 (k := 44) d 44 rfl]; rfl
          rcases tf (ieqB (d.toNat : Nat) 92) with h3 | h3 <;> rcases tf (ieqB (d.toNat : Nat) 44) with h4 | h4
          all_goals
            rw [hq, h3, h4] at hps
            have k3 := congrArg not h3
            have k4 := congrArg not h4
            clear hq
            simp only [Bool.not_true, Bool.not_false, Bool.or_true, Bool.or_false, Bool.true_or, if_true, if_false, Bool.false_eq_true] at hps k3 k4
          rotate_right
          · rw [hps]
            refine yG ?_
            exact ⟨rfl, gv_ends hg⟩
          all_goals
            refine yG ?_
            refine OS.pure rfl (e_part (l := i + 1) (u := i + 1 + 1) rfl rfl rfl rfl bound_nat bound_nat rfl (by omega) (by omega)) rfl ?_
            rw [hone2]
            refine OS.pure rfl (e_cat (xs := part) (ys := [d]) rfl rfl rfl (by simp; omega)) rfl ?_
            refine yG ?_
            exact ⟨s.length - (i + 1 + 1), by omega, i + 1 + 1, nm, part ++ [d], true, dn, rv, rfl, by omega, by simp; omega, by omega, by rw [hps, hs3]; rfl, fun h => (by cases h), hg, rfl⟩
        · rw [if_neg (by simp), ps_q (by decide)] at hps
          have hq : isQ d 58 = (ieqB (d.toNat : Nat) 92 || ieqB (d.toNat : Nat) 58) := by rw [cmp_u8 (k := 92) d 92 rfl, cmp_u8 (k := 58) d 58 rfl]; rfl
          rcases tf (ieqB (d.toNat : Nat) 92) with h3 | h3 <;> rcases tf (ieqB (d.toNat : Nat) 58) with h4 | h4
          all_goals
            rw [hq, h3, h4] at hps
            have k3 := congrArg not h3
            have k4 := congrArg not h4
            clear hq
            simp only [Bool.not_true, Bool.not_false, Bool.or_true, Bool.or_false, Bool.true_or, if_true, if_false, Bool.false_eq_true] at hps k3 k4
          rotate_right
          · rw [hps]
            refine yG ?_
            exact ⟨rfl, gv_ends hg⟩
          all_goals
            refine yG ?_
            refine OS.pure rfl (e_part (l := i + 1) (u := i + 1 + 1) rfl rfl rfl rfl bound_nat bound_nat rfl (by omega) (by omega)) rfl ?_
            rw [hone2]
            refine OS.pure rfl (e_cat (xs := part) (ys := [d]) rfl rfl rfl (by simp; omega)) rfl ?_
            refine yG ?_
            exact ⟨s.length - (i + 1 + 1), by omega, i + 1 + 1, nm, part ++ [d], false, dn, rv, rfl, by omega, by simp; omega, by omega, by rw [hps, hs3]; rfl, hv0, hg, rfl⟩
    · have g2 : (c == 92) = false := by
        have h9 := h2
        rw [cmp_u8 (k := 92) c 92 rfl] at h9
        exact h9
      rcases hv with rfl | rfl
      · rw [if_pos rfl] at hps
        rcases tf (ieqB (c.toNat : Nat) 44) with h4 | h4
        · have g4 := h4
          rw [cmp_u8 (k := 44) c 44 rfl] at g4
          rw [ps_end g4, Option.map_map] at hps
          refine yG ?_
          refine OS.fresh rfl (e_new (fun _ => rfl) rfl) (fun _ => rfl) (fun rn => ?_)
          refine OS.fresh rfl (e_appendGV [_] (m := 1) (sz := 1) (bts := 16) hg (SV.row (sz := 1) (n := 1) (List.mem_cons_self ..) rfl) (by omega) rfl rfl rfl rfl (by omega) (by omega)) (fun _ => rfl) (fun r2 => ?_)
          refine OS.sub (Sub.drop 1 rfl) ?_
          refine yG ?_
          refine ⟨s.length - (i + 1), by omega, i + 1, nm, [], true, dn ++ [part], _, rfl, by omega, by simp, by simp; omega, ?_, fun h => (by cases h), ?_, rfl⟩
          · rw [hps, if_pos rfl]
            congr 1
            funext x
            simp
          · rw [strs_snoc, List.length_append]
            exact GV.of (by rw [List.length_append, strs_len]; simp)
        · have g4 := h4
          rw [cmp_u8 (k := 44) c 44 rfl] at g4
          rw [ps_c g4 g2] at hps
          clear g2 g4
          refine yG ?_
          refine OS.pure rfl (e_part (l := i) (u := i + 1) rfl rfl rfl rfl bound_nat bound_nat rfl (by omega) (by omega)) rfl ?_
          rw [hone]
          refine OS.pure rfl (e_cat (xs := part) (ys := [c]) rfl rfl rfl (by simp; omega)) rfl ?_
          refine yG ?_
          exact ⟨s.length - (i + 1), by omega, i + 1, nm, part ++ [c], true, dn, rv, rfl, by omega, by simp; omega, by omega, hps, fun h => (by cases h), hg, rfl⟩
      · rw [if_neg (by simp)] at hps
        obtain rfl := hv0 rfl
        rcases tf (ieqB (c.toNat : Nat) 58) with h4 | h4
        · have g4 := h4
          rw [cmp_u8 (k := 58) c 58 rfl] at g4
          rw [ps_end g4] at hps
          clear g2 g4
          refine yG ?_
          exact ⟨s.length - (i + 1), by omega, i + 1, part, [], true, [], rv, rfl, by omega, by simp, by simp, by rw [hps]; rfl, fun h => (by cases h), hg, rfl⟩
        · have g4 := h4
          rw [cmp_u8 (k := 58) c 58 rfl] at g4
          rw [ps_c g4 g2] at hps
          clear g2 g4
          refine yG ?_
          refine OS.pure rfl (e_part (l := i) (u := i + 1) rfl rfl rfl rfl bound_nat bound_nat rfl (by omega) (by omega)) rfl ?_
          rw [hone]
          refine OS.pure rfl (e_cat (xs := part) (ys := [c]) rfl rfl rfl (by simp; omega)) rfl ?_
          refine yG ?_
          exact ⟨s.length - (i + 1), by omega, i + 1, nm, part ++ [c], false, [], rv, rfl, by omega, by simp; omega, by simp, hps, fun _ => rfl, hg, rfl⟩
  · have hb : (!ileB ((s.length : Nat) : Int) (i : Nat)) = false := by rw [ileB_eq]; simp; omega
    rw [List.drop_of_length_le (by omega)] at hps
    refine yG ?_
    refine LS.exit ?_
    rcases tf val with rfl | rfl
    · rw [if_pos rfl, ps_nil] at hps
      rw [hps]
      refine yG ?_
      refine OS.fresh rfl (e_new (fun _ => rfl) rfl) (fun _ => rfl) (fun rn => ?_)
      refine OS.fresh rfl (e_appendGV [_] (m := 1) (sz := 1) (bts := 16) hg (SV.row (sz := 1) (n := 1) (List.mem_cons_self ..) rfl) (by omega) rfl rfl rfl rfl (by omega) (by omega)) (fun _ => rfl) (fun r2 => ?_)
      refine OS.sub (Sub.drop 1 rfl) ?_
      refine yG ?_
      refine ⟨some ⟨r2, 0, none⟩, openCap, by simp [tupleB], ?_⟩
      show GV 9 1 L (.slice (some ⟨r2, 0, none⟩) (dn ++ [part]).length openCap) (dn ++ [part]).length (strs (dn ++ [part])) _
      rw [strs_snoc, List.length_append]
      exact GV.of (by rw [List.length_append, strs_len]; simp)
    · rw [if_neg (by simp), ps_nil] at hps
      obtain rfl := hv0 rfl
      rw [hps]
      have hf : ∃ A c, rv = .slice A 0 c := by
        rcases hg with ⟨rfl, h0, _, _⟩ | ⟨r, rfl, _, _⟩ <;> exact ⟨_, _, rfl⟩
      obtain ⟨A, c, rfl⟩ := hf
      refine yG ?_
      exact ⟨A, c, rfl, hg⟩
end Go.Proofs.Ytllcbjaajffaeaa
