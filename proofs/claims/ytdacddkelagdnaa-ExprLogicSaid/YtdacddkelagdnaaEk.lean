/- Layer 11: the document's Term. -/
import Derived.Test.YtdacddkelagdnaaEj
namespace Go.Proofs.Ytdacddkelagdnaa
open Go.Am
set_option linter.unusedVariables false
set_option maxRecDepth 20000
set_option maxHeartbeats 4000000
attribute [local irreducible] OS LSr ODS CS

theorem gv_drop {e : TypeId} {sz n : Nat} {F L : RL} {v : Value} {cs : List Value} (g : GV e sz F v n cs L) : Sub F L := by
  rcases g with ⟨_, _, _, rfl⟩ | ⟨r, _, _, rfl⟩
  · exact ⟨[], by simp⟩
  · exact ⟨[_], List.perm_append_comm (l₁ := [_])⟩
theorem Sub.refl {L : RL} : Sub L L := ⟨[], by simp⟩
/-- The same, where rows may be left over behind a refusal. -/
def DPos2 (m : Md) (F : RL) (ws : List W) : Rs → Value → RL → Prop
  | .err e, v, L' => ∃ k : Nat, v = .tuple #[.bool false, .slice none 0 0, .int .i64 (k : Nat), .int .i64 (e : Nat)] ∧ (e = 4 ∨ e = 65) ∧ Sub F L'
  | .ok x r, v, L' => DPost m F ws (.ok x r) v L'
theorem DPos2.less {m : Md} {f : FuncId} {args : List Value} {F : RL} {ws : List W} {res : Rs} (h : CS Try.prog f args F (DPos2 m F ws res)) : CS Try.prog f args F (DPost m F ws res) := by
  refine h.less fun v L' h => ?_
  cases res with
  | err e => obtain ⟨k, h1, h2, h3⟩ := h; exact ⟨F, h3, k, h1, h2, rfl⟩
  | ok x r => exact ⟨L', Sub.refl, h⟩
theorem refTerm_ct {N : Nat} (iht : ∀ M, M < N → Dt 29 .t M) (ihr : ∀ M, M < N → Dt 26 .c M) : Dt 29 .t N := by
  intro d i k s ws F hs hf hi hN hd hk
  have hf1 := hf.1
  cases k with
  | zero => simp [fuel, Md.n] at hk
  | succ k =>
  obtain ⟨c, hc⟩ : ∃ c, cmpAt (ws.drop i) = c := ⟨_, rfl⟩
  match c, hc with
  | some (a, o, b, r), hc =>
    have e : pr (k + 1) .t d (ws.drop i) = .ok (.cmp a o b) r := by unfold pr; rw [hc]
    rw [e]
    exact refTerm_cmp hs hf hi hc
  | none, hc =>
    have hcs := compares_ct (L := F) hs hf1 hi
    rw [hc] at hcs
    match hw : ws.drop i with
    | [] =>
      have hn := dnil hw
      have e : pr (k + 1) .t d [] = .err 4 := by unfold pr; rfl
      have hb : ileB ((ws.length : Nat) : Int) ((i : Nat) : Int) = true := by rw [ileB_eq]; simp; omega
      rw [e]
      refine CS.mk (fn := Try.f29) rfl rfl rfl rfl ?_
      refine yG ?_
      refine OS.call noGo rfl (fun _ => rfl) ((hcs).mono ?_)
      rintro v L' ⟨rfl, rfl⟩
      refine yG ?_
      exact ⟨.inl rfl, rfl⟩
    | y :: r =>
      rw [hw] at hc hk
      obtain ⟨g0, hd1, hil⟩ := dget hw
      have hb : ileB ((ws.length : Nat) : Int) ((i : Nat) : Int) = false := by rw [ileB_eq]; simp; omega
      have hrl : (ws.drop (i + 1)).length = ws.length - (i + 1) := List.length_drop
      rw [hd1] at hrl
      by_cases h1 : y = wNot
      · subst h1
        have b1 : (!bytesEq wNot [110, 111, 116]) = false := rfl
        have b1' : bytesEq wNot [110, 111, 116] = true := rfl
        have e : pr (k + 1) .t d (wNot :: r) = if d = 64 then .err 65 else (pr k .t (d + 1) r).bind fun t r => .ok (.neg t) r := by
          conv => lhs; unfold pr
          rw [hc]; simp only [if_true]
        rw [e]
        by_cases h64 : d = 64
        · subst h64
          rw [if_pos rfl]
          refine CS.mk (fn := Try.f29) rfl rfl rfl rfl ?_
          refine yG ?_
          refine OS.call noGo rfl (fun _ => rfl) ((hcs).mono ?_)
          rintro v L' ⟨rfl, rfl⟩
          refine yG ?_
          refine OS.at1 (j := i) (hs) (strs_at g0) rfl rfl rfl rfl rfl rfl (fun ra0 oa0 rowa0 csa0 ma0 ca0 ga0 => ⟨_, rfl, ?_⟩)
          refine OS.read rfl (e_loadm ma0 ca0 rfl rfl (part_one rfl ga0)) rfl ?_
          refine yG ?_
          exact ⟨.inr rfl, rfl⟩
        rw [if_neg h64]
        have b2 : ileB 64 ((d : Nat) : Int) = false := by rw [ileB_eq]; simp; omega
        have hI := iht (ws.length - (i + 1)) (by omega) (d + 1) (i + 1) k s ws F hs hf (by omega) (Nat.le_refl _) (by omega) (by rw [hd1]; simp [fuel, Md.n] at hk ⊢; omega)
        rw [hd1] at hI
        generalize pr k .t (d + 1) r = res at hI ⊢
        refine CS.mk (fn := Try.f29) rfl rfl rfl rfl ?_
        refine yG ?_
        refine OS.call noGo rfl (fun _ => rfl) ((hcs).mono ?_)
        rintro v L' ⟨rfl, hL⟩
        rw [hL]
        clear hL
        refine yG ?_
        refine OS.at1 (j := i) (hs) (strs_at g0) rfl rfl rfl rfl rfl rfl (fun ra0 oa0 rowa0 csa0 ma0 ca0 ga0 => ⟨_, rfl, ?_⟩)
        refine OS.read rfl (e_loadm ma0 ca0 rfl rfl (part_one rfl ga0)) rfl ?_
        refine yG ?_
        refine OS.at1 (j := i) (hs) (strs_at g0) rfl rfl rfl rfl rfl rfl (fun ra2 oa2 rowa2 csa2 ma2 ca2 ga2 => ⟨_, rfl, ?_⟩)
        refine OS.read rfl (e_loadm ma2 ca2 rfl rfl (part_one rfl ga2)) rfl ?_
        refine yG ?_
        refine OS.call noGo rfl (fun _ => rfl) ((hI).mono ?_)
        cases res with
        | err e =>
          rintro v L' ⟨k', rfl, he, hL⟩
          rw [hL]
          clear hL
          rcases he with rfl | rfl
          · refine yG ?_
            exact ⟨.inl rfl, rfl⟩
          · refine yG ?_
            exact ⟨.inr rfl, rfl⟩
        | ok x r' =>
          rintro v L' ⟨l, k', rfl, hk', hr', hg⟩
          have hev : ev .t (.neg x) = !ev .t x := rfl
          rcases tf (ev .t x) with h5 | h5 <;> rw [h5]
          · refine yG ?_
            exact ⟨l, k', by rw [hev, h5]; rfl, hk', hr', hg⟩
          · refine yG ?_
            exact ⟨l, k', by rw [hev, h5]; rfl, hk', hr', hg⟩
      have b1 : (!bytesEq y [110, 111, 116]) = true := by rw [beq_bytes]; simpa [wNot] using h1
      have b1' : bytesEq y [110, 111, 116] = false := by rw [beq_bytes]; exact decide_eq_false h1
      by_cases h2 : y = wOpen
      · subst h2
        have e : pr (k + 1) .t d (wOpen :: r) = if d = 64 then .err 65 else closed (pr k .c (d + 1) r) := by
          conv => lhs; unfold pr
          unfold closed; rw [hc]; simp only [show ¬ wOpen = wNot by decide, if_false, if_true]
          rfl
        rw [e]
        by_cases h64 : d = 64
        · subst h64
          rw [if_pos rfl]
          refine CS.mk (fn := Try.f29) rfl rfl rfl rfl ?_
          refine yG ?_
          refine OS.call noGo rfl (fun _ => rfl) ((hcs).mono ?_)
          rintro v L' ⟨rfl, rfl⟩
          refine yG ?_
          refine OS.at1 (j := i) (hs) (strs_at g0) rfl rfl rfl rfl rfl rfl (fun ra0 oa0 rowa0 csa0 ma0 ca0 ga0 => ⟨_, rfl, ?_⟩)
          refine OS.read rfl (e_loadm ma0 ca0 rfl rfl (part_one rfl ga0)) rfl ?_
          refine yG ?_
          refine OS.at1 (j := i) (hs) (strs_at g0) rfl rfl rfl rfl rfl rfl (fun ra2 oa2 rowa2 csa2 ma2 ca2 ga2 => ⟨_, rfl, ?_⟩)
          refine OS.read rfl (e_loadm ma2 ca2 rfl rfl (part_one rfl ga2)) rfl ?_
          refine yG ?_
          exact ⟨.inr rfl, rfl⟩
        rw [if_neg h64]
        have b2 : ileB 64 ((d : Nat) : Int) = false := by rw [ileB_eq]; simp; omega
        have hI := ihr (ws.length - (i + 1)) (by omega) (d + 1) (i + 1) k s ws F hs hf (by omega) (Nat.le_refl _) (by omega) (by rw [hd1]; simp [fuel, Md.n] at hk ⊢; omega)
        rw [hd1] at hI
        generalize pr k .c (d + 1) r = res at hI ⊢
        apply DPos2.less
        refine CS.mk (fn := Try.f29) rfl rfl rfl rfl ?_
        refine yG ?_
        refine OS.call noGo rfl (fun _ => rfl) ((hcs).mono ?_)
        rintro v L' ⟨rfl, hL⟩
        rw [hL]
        clear hL
        refine yG ?_
        refine OS.at1 (j := i) (hs) (strs_at g0) rfl rfl rfl rfl rfl rfl (fun ra0 oa0 rowa0 csa0 ma0 ca0 ga0 => ⟨_, rfl, ?_⟩)
        refine OS.read rfl (e_loadm ma0 ca0 rfl rfl (part_one rfl ga0)) rfl ?_
        refine yG ?_
        refine OS.at1 (j := i) (hs) (strs_at g0) rfl rfl rfl rfl rfl rfl (fun ra2 oa2 rowa2 csa2 ma2 ca2 ga2 => ⟨_, rfl, ?_⟩)
        refine OS.read rfl (e_loadm ma2 ca2 rfl rfl (part_one rfl ga2)) rfl ?_
        refine yG ?_
        refine OS.at1 (j := i) (hs) (strs_at g0) rfl rfl rfl rfl rfl rfl (fun ra3 oa3 rowa3 csa3 ma3 ca3 ga3 => ⟨_, rfl, ?_⟩)
        refine OS.read rfl (e_loadm ma3 ca3 rfl rfl (part_one rfl ga3)) rfl ?_
        refine yG ?_
        refine OS.call noGo rfl (fun _ => rfl) ((hI).mono ?_)
        cases res with
        | err e =>
          rintro v L' ⟨k', rfl, he, hL⟩
          rw [hL]
          clear hL
          rcases he with rfl | rfl
          · refine yG ?_
            exact ⟨.inl rfl, Sub.refl⟩
          · refine yG ?_
            exact ⟨.inr rfl, Sub.refl⟩
        | ok x r' =>
          rintro v L' ⟨l, k', rfl, hk', hr', hg⟩
          have hsL := hs.mono hg.mem
          match r', hr' with
          | [], hr' =>
            have hn := dnil hr'.symm
            have b3 : ileB ((ws.length : Nat) : Int) ((k' : Nat) : Int) = true := by rw [ileB_eq]; simp; omega
            refine yG ?_
            exact ⟨.inl rfl, gv_drop hg⟩
          | z :: r', hr' =>
            obtain ⟨g3, hd3, hk3⟩ := dget hr'.symm
            have b3 : ileB ((ws.length : Nat) : Int) ((k' : Nat) : Int) = false := by rw [ileB_eq]; simp; omega
            by_cases h3 : z = wClose
            · subst h3
              refine yG ?_
              refine OS.at1 (j := k') (hsL) (strs_at g3) rfl rfl rfl rfl rfl rfl (fun ra4 oa4 rowa4 csa4 ma4 ca4 ga4 => ⟨_, rfl, ?_⟩)
              refine OS.read rfl (e_loadm ma4 ca4 rfl rfl (part_one rfl ga4)) rfl ?_
              refine yG ?_
              exact ⟨l, k' + 1, rfl, by omega, hd3.symm, hg⟩
            · have b4 : (!bytesEq z [41]) = true := by rw [beq_bytes]; simpa [wClose] using h3
              have ec : closed (.ok x (z :: r')) = .err 4 := by
                unfold closed
                show (if z = wClose then _ else _) = _
                rw [if_neg h3]
              rw [ec]
              refine yG ?_
              refine OS.at1 (j := k') (hsL) (strs_at g3) rfl rfl rfl rfl rfl rfl (fun ra4 oa4 rowa4 csa4 ma4 ca4 ga4 => ⟨_, rfl, ?_⟩)
              refine OS.read rfl (e_loadm ma4 ca4 rfl rfl (part_one rfl ga4)) rfl ?_
              refine yG ?_
              exact ⟨.inl rfl, gv_drop hg⟩
      have b3 : (!bytesEq y [40]) = true := by rw [beq_bytes]; simpa [wOpen] using h2
      have e : pr (k + 1) .t d (y :: r) = .err 4 := by
        unfold pr; rw [hc]
        simp only [h1, h2, if_false]
      rw [e]
      refine CS.mk (fn := Try.f29) rfl rfl rfl rfl ?_
      refine yG ?_
      refine OS.call noGo rfl (fun _ => rfl) ((hcs).mono ?_)
      rintro v L' ⟨rfl, rfl⟩
      refine yG ?_
      refine OS.at1 (j := i) (hs) (strs_at g0) rfl rfl rfl rfl rfl rfl (fun ra0 oa0 rowa0 csa0 ma0 ca0 ga0 => ⟨_, rfl, ?_⟩)
      refine OS.read rfl (e_loadm ma0 ca0 rfl rfl (part_one rfl ga0)) rfl ?_
      refine yG ?_
      refine OS.at1 (j := i) (hs) (strs_at g0) rfl rfl rfl rfl rfl rfl (fun ra2 oa2 rowa2 csa2 ma2 ca2 ga2 => ⟨_, rfl, ?_⟩)
      refine OS.read rfl (e_loadm ma2 ca2 rfl rfl (part_one rfl ga2)) rfl ?_
      refine yG ?_
      exact ⟨.inl rfl, rfl⟩
end Go.Proofs.Ytdacddkelagdnaa
