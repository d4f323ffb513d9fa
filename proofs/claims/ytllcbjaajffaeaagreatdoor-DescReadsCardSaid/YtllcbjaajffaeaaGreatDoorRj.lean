import Derived.Test.YtllcbjaajffaeaaGreatDoorRi
namespace Go.Proofs.YtllcbjaajffaeaaGreatDoor
open Go.Am Go.Pd
set_option linter.unusedVariables false
set_option maxRecDepth 20000
set_option maxHeartbeats 4000000
attribute [local irreducible] OS LSr ODS CS YS
def Ends (F L : RL) : Prop := ∃ Z, L = Z ++ F
theorem Ends.nil {F : RL} : Ends F F := ⟨[], rfl⟩
theorem Ends.cons {F L : RL} {x : Nat × ARow} (h : Ends F L) : Ends F (x :: L) := by obtain ⟨Z, rfl⟩ := h; exact ⟨x :: Z, rfl⟩
theorem Ends.app {F L X : RL} (h : Ends F L) : Ends F (X ++ L) := by obtain ⟨Z, rfl⟩ := h; exact ⟨X ++ Z, by simp⟩
def Res (rd : Nat) (B F : RL) (e : Except Nat Dc) (v : Value) (L' : RL) : Prop := match e with
  | .error k => v = errV k ∧ k ≠ 0 ∧ Ends F L'
  | .ok d' => v = .nilIface ∧ ∃ Y', DS rd d' Y' B F L'
theorem jn2_eq (w n : W) : Lib.join [w, n] [32] = jn2 w n := by simp [Lib.join, List.intercalate, jn2]
theorem join1 (w : W) : Lib.join [w] [32] = w := by simp [Lib.join, List.intercalate]
theorem kind_of (w : W) : kindOf w = 1 ∨ kindOf w = 2 := by unfold kindOf; split <;> simp
theorem jn2_inj {w w' n n' : W} (h1 : w = kTemplate ∨ w = kJob) (h2 : w' = kTemplate ∨ w' = kJob) (h : jn2 w n = jn2 w' n') : w = w' ∧ n = n' := by
  rcases h1 with rfl | rfl <;> rcases h2 with rfl | rfl
  · exact ⟨rfl, by simpa [jn2] using h⟩
  · simp [jn2, kTemplate, kJob] at h
  · simp [jn2, kTemplate, kJob] at h
  · exact ⟨rfl, by simpa [jn2] using h⟩
theorem kind_inj {w w' : W} (h1 : w = kTemplate ∨ w = kJob) (h2 : w' = kTemplate ∨ w' = kJob) (h : kindOf w = kindOf w') : w = w' := by
  rcases h1 with rfl | rfl <;> rcases h2 with rfl | rfl <;> first | rfl | (revert h; decide)
theorem MarkOk.begin {fm fm2 : Value → Option Value} {d : Dc} {w n : W} {no : Int} (h : MarkOk fm d) (hw : w = kTemplate ∨ w = kJob) (h1 : ∀ k, k ≠ mkV 0 (jn2 w n) → fm2 k = fm k) (h2 : (fm2 (mkV 0 (jn2 w n))).isSome) : MarkOk fm2 ⟨d.head, d.secs ++ [⟨no, kindOf w, n, []⟩]⟩ := by
  refine ⟨fun w' n' hw' => ?_, fun w' a' ho ha _ => ?_, fun k t hk => ?_⟩
  · simp only [List.any_append, List.any_cons, List.any_nil, Bool.or_false, Bool.or_eq_true, Bool.and_eq_true, beq_iff_eq, decide_eq_true_eq]
    by_cases he : jn2 w' n' = jn2 w n
    · obtain ⟨rfl, rfl⟩ := jn2_inj hw' hw he
      exact ⟨fun _ => .inr ⟨rfl, rfl⟩, fun _ => h2⟩
    · rw [h1 _ fun e => he (mkV_inj e).2, h.sec w' n' hw']
      constructor
      · exact fun x => .inl x
      · rintro (x | ⟨x, rfl⟩)
        · exact x
        · exact absurd (by rw [kind_inj hw' hw x.symm]) he
  · have e1 : (d.secs ++ [(⟨no, kindOf w, n, []⟩ : Se)]).length = d.secs.length + 1 := by simp
    have e2 : (Dc.mk d.head (d.secs ++ [⟨no, kindOf w, n, []⟩])).last.2 = [] := by simp [Dc.last]
    rw [e2]
    show (fm2 (mkV (d.secs ++ [(⟨no, kindOf w, n, []⟩ : Se)]).length (mtext w' a'))).isSome ↔ _
    rw [e1, h1 _ (fun e => by have := (mkV_inj e).1; omega), h.next _ _ (by omega)]
    simp [twice]
  · have e1 : (d.secs ++ [(⟨no, kindOf w, n, []⟩ : Se)]).length = d.secs.length + 1 := by simp
    have hk' : d.secs.length + 1 < k := by rw [← e1]; exact hk
    rw [h1 _ (fun e => by have := (mkV_inj e).1; omega), h.next _ _ (by omega)]
theorem cnt_snoc (d : Dc) (y : Se) (c : UInt8) : cnt ⟨d.head, d.secs ++ [y]⟩ c = cnt d c + if y.kind = c then 1 else 0 := by
  unfold cnt
  rw [List.filter_append, List.length_append]
  congr 1
  by_cases h : y.kind = c
  · simp [h]
  · simp [h]
theorem DcOk.begin {d : Dc} {no : Int} {w n : W} (h : DcOk d) (hc : cnt d (kindOf w) < 24) : DcOk ⟨d.head, d.secs ++ [⟨no, kindOf w, n, []⟩]⟩ := by
  have e := cnt_snoc d ⟨no, kindOf w, n, []⟩
  refine ⟨h.head, fun s hs => ?_, ?_, ?_, ?_⟩
  · rcases List.mem_append.1 hs with hs | hs
    · exact h.items s hs
    · simp at hs; subst hs; simp
  · rw [e, e]
    have := h.secs
    rcases kind_of w with hk | hk <;> rw [hk] <;> simp <;> omega
  · rw [e]
    have := h.c1
    rcases kind_of w with hk | hk <;> rw [hk] at hc ⊢ <;> simp <;> omega
  · rw [e]
    have := h.c2
    rcases kind_of w with hk | hk <;> rw [hk] at hc ⊢ <;> simp <;> omega
section
variable {F L Y B : RL} {rd : Nat} {d : Dc}
theorem begin_ct {no : Int} {w n : W} {cv : Value} (h : DS rd d Y B F L) (hw : w = kTemplate ∨ w = kJob) (hcv : SV 1 (Y ++ F) cv 2 (strs [w, n])) (hn : n.length ≤ 1000) :
    CS Tryz.prog 138 [ptr rd, cv, .agg ⟨secC no (kindOf w) n (.slice none 0 0)⟩] L fun v L' => Res rd B F (if (d.secs.any fun s => s.kind == kindOf w && decide (s.name = n)) = true then .error 6 else if 24 ≤ cnt d (kindOf w) then .error 3 else .ok ⟨d.head, d.secs ++ [⟨no, kindOf w, n, []⟩]⟩) v L' := by
  obtain ⟨rr, rc, rs, es, ck, ec, kc, em, km, hv, sv, HY, SY, IY, fc, fm, rfl, hBF, hok, hR, ⟨hC1, hC2⟩, ⟨hM1, hM2, hM3⟩, hD⟩ := h.ex
  have hjl : (Lib.join [w, n] [32]).length ≤ 1000000 := by
    rw [jn2_eq]
    rcases hw with rfl | rfl <;> simp [jn2, kTemplate, kJob] <;> omega
  suffices hh : CS Tryz.prog 138 [ptr rd, cv, .agg ⟨secC no (kindOf w) n (.slice none 0 0)⟩] ((rd, dRow hv sv rr rc rs) :: (rr, .map es ck) :: (rc, .map ec kc) :: (rs, .map em km) :: (HY ++ (SY ++ (IY ++ (Y ++ F))))) fun v L' => ∃ L₁, Sub L₁ L' ∧ Res rd B F (if (d.secs.any fun s => s.kind == kindOf w && decide (s.name = n)) = true then .error 6 else if 24 ≤ cnt d (kindOf w) then .error 3 else .ok ⟨d.head, d.secs ++ [⟨no, kindOf w, n, []⟩]⟩) v L₁ from
    hh.less fun v L' h => h
  refine CS.mk (fn := Tryz.f138) rfl rfl rfl rfl ?_
  refine yG ?_
  refine OS.fresh rfl (e_new (fun _ => rfl) rfl) (fun _ => rfl) (fun r5 => ?_)
  show OS _ _ _ _ ((r5, ARow.cells tS (secC no (kindOf w) n (.slice none 0 0))) :: _) _
  refine yG ?_
  refine OS.sub (Sub.pulls [4, 2] rfl) ?_
  refine OS.call noGo rfl (fun _ => rfl) ((isFirst_ct (n := 0) hM1 hM2 (hcv.up (G := (r5, _) :: (rr, _) :: (rc, _) :: (HY ++ (SY ++ (IY ++ (Y ++ F))))) fun p hp => by simp at hp ⊢; rcases hp with hp | hp <;> simp [hp]) (by simp) (by simp) hjl).mono ?_)
  rintro v L' ⟨em2, km2, fm2, rfl, rfl, hN1, hN2, hN3, hN4⟩
  rw [jn2_eq] at hN3 hN4 ⊢
  have hsec := hM3.sec w n hw
  refine ⟨_, rfl, ?_⟩
  rcases tf (d.secs.any fun s => s.kind == kindOf w && decide (s.name = n)) with hany | hany
  · rw [hsec.2 hany, if_pos hany]
    refine yG ?_
    exact ⟨_, Sub.drops 0 rfl, rfl, by decide, by repeat (first | exact Ends.nil | apply Ends.cons | apply Ends.app)⟩
  have hno : (fm (mkV 0 (jn2 w n))).isSome = false := by
    rw [Bool.eq_false_iff]
    intro hs
    rw [hsec.1 hs] at hany; cases hany
  rw [hno, if_neg (by rw [hany]; simp)]
  have hcb : cnt d (kindOf w) ≤ 24 := by rcases kind_of w with hk | hk <;> rw [hk]; exact hok.c1; exact hok.c2
  have hfc : (match findB (kdV (kindOf w)) ec 0 with | some (some (_, v)) => some (okTuple false v true) | some none => (match zeroVB Tryz.prog 3 with | some z => some (okTuple false z false) | none => none) | none => none) = some (.int .i64 (cnt d (kindOf w) : Nat)) := by
    rcases hC2 (kindOf w) (kind_of w) with ⟨h1, h2⟩ | h1
    · rcases hC1.found _ ⟨_, rfl⟩ with ⟨h3, h4⟩ | ⟨v, j, h3, h4⟩
      · rw [h4, h2]; kernel_rfl
      · rw [h1] at h3; cases h3
    · rcases hC1.found _ ⟨_, rfl⟩ with ⟨h3, h4⟩ | ⟨v, j, h3, h4⟩
      · rw [h1] at h3; cases h3
      · rw [h1] at h3; cases h3; rw [h4]; rfl
  refine yG ?_
  repeat refine LS.seq ?_
  refine LS.drawn noGo mixed [(0, false), (1, false), (2, false), (3, false), (4, false), (5, false), (6, false), (7, false)] rfl rfl (by kernel_rfl) ?_
  refine yG ?_
  refine ODS.read rfl rfl (e_lookup 4 rfl rfl rfl rfl (by kernel_rfl) rfl hfc) rfl ?_
  by_cases hfull : 24 ≤ cnt d (kindOf w)
  · have hb : ieqB ((cnt d (kindOf w) : Nat) : Int) 24 = true := by rw [ieqB_eq]; simp; omega
    rw [if_pos hfull]
    refine yG ?_
    exact ⟨_, Sub.drops 0 rfl, rfl, by decide, by repeat (first | exact Ends.nil | apply Ends.cons | apply Ends.app)⟩
  have hb : ieqB ((cnt d (kindOf w) : Nat) : Int) 24 = false := by rw [ieqB_eq]; simp; omega
  rw [if_neg hfull]
  obtain ⟨ec2, kc2, fc2, hputc, hK1, hK2, hK3⟩ := hC1.put' (v := .int .i64 ((cnt d (kindOf w) + 1 : Nat) : Int)) (ck := kc) told_DK ⟨kindOf w, rfl⟩
  refine yG ?_
  repeat refine LS.seq ?_
  refine LS.drawn noGo mixed [(0, false), (1, false), (2, false), (3, false), (4, false), (5, false), (6, false), (7, false), (8, true)] rfl rfl (by kernel_rfl) ?_
  refine yG ?_
  refine ODS.read rfl rfl (e_lookup 4 rfl rfl rfl rfl (by kernel_rfl) rfl hfc) rfl ?_
  refine yG ?_
  refine ODS.write rfl rfl (e_mapUpdate 4 rfl rfl rfl rfl rfl (by kernel_rfl) rfl hputc rfl) rfl (Keep.gone rfl (Keep.gone rfl (Keep.gone rfl Keep.nil))) ?_
  refine yG ?_
  have hC3 : CntOk fc2 ⟨d.head, d.secs ++ [⟨no, kindOf w, n, []⟩]⟩ := fun c hc => by
    rw [cnt_snoc]
    by_cases hcw : kindOf w = c
    · subst hcw; rw [if_pos rfl]; exact .inr hK2
    · rw [if_neg hcw, hK3 _ fun e => hcw (kdV_inj e).symm]; exact hC2 c hc
  have hok2 : DcOk ⟨d.head, d.secs ++ [⟨no, kindOf w, n, []⟩]⟩ := hok.begin (by omega)
  have hM4 : MarkOk fm2 ⟨d.head, d.secs ++ [⟨no, kindOf w, n, []⟩]⟩ := hM3.begin hw hN3 hN4
  cases hD with
  | none hh hI =>
    rename_i hd cs
    repeat refine LS.seq ?_
    refine LS.drawn noGo mixed [(0, false), (1, false), (2, false), (3, false), (4, false), (5, false), (6, false), (7, true), (8, true), (9, false), (10, false), (11, false), (12, true)] rfl rfl (by kernel_rfl) ?_
    refine yG ?_
    refine ODS.fresh rfl rfl (e_new (fun _ => rfl) rfl) (fun _ => rfl) (fun _ => Keep.gone rfl (Keep.cons rfl (e_load 1 rfl rfl rfl rfl rfl) Keep.nil)) (fun rt => ?_)
    refine ODS.fresh rfl rfl (e_appendGV [(rt, _), (rd, _), (rs, _), (r5, _), (rr, _), (rc, _)] (e := tS) (sz := 4) (bts := 56) (m := 1) GV.nil (SV.row (sz := 4) (n := 1) (List.mem_cons_self ..) rfl) (by omega) rfl rfl rfl rfl (by omega) (by omega)) (fun _ => rfl) (fun _ => Keep.gone rfl (Keep.gone rfl Keep.nil)) (fun r2 => ?_)
    refine yG ?_
    refine ODS.write rfl rfl (e_store 2 rfl rfl rfl rfl rfl rfl rfl rfl) rfl (Keep.gone rfl (Keep.gone rfl Keep.nil)) ?_
    refine yG ?_
    refine ⟨(rd, dRow hv (.slice (some ⟨r2, 0, none⟩) (0 + 1) openCap) rr rc rs) :: (rr, .map es ck) :: (rc, .map ec2 kc2) :: (rs, .map em2 km2) :: (HY ++ ([(r2, .cells tS ([] ++ secC no (kindOf w) n (.slice none 0 0)))] ++ ([] ++ (Y ++ F)))), (?_ : Sub _ ((r2, ARow.cells tS ([] ++ secC no (kindOf w) n (.slice none 0 0))) :: (rt, _) :: (rd, dRow hv (.slice (some ⟨r2, 0, none⟩) (0 + 1) openCap) rr rc rs) :: _)), rfl, _, ⟨rr, rc, rs, es, ck, ec2, kc2, em2, km2, hv, _, HY, _, [], fc2, fm2, rfl, hBF, hok2, hR, ⟨hK1, hC3⟩, ⟨hN1, hN2, hM4⟩, .some (S := []) (y := ⟨no, kindOf w, n, []⟩) (cs0 := []) hh hI rfl .nil rfl⟩⟩
    refine Sub.trans (Sub.sums fun f => ?_) (Sub.trans (Sub.drop 3 rfl) (Sub.drop 1 rfl))
    simp <;> omega
  | some hh hI hS hg hy =>
    rename_i hd cs S y cs0 ics iv rS
    have m1 : ∀ p, p ∈ Y ++ B → p ∈ (IY ++ Y) ++ B := fun p hp => by rw [List.append_assoc]; exact List.mem_append_right _ hp
    have m2 : ∀ p, p ∈ IY ++ (Y ++ B) → p ∈ (IY ++ Y) ++ B := fun p hp => by rw [List.append_assoc]; exact hp
    have hl := hS.len
    have hgs : GV tS 4 (HY ++ (IY ++ (Y ++ F))) (.slice (some ⟨rS, 0, none⟩) (S.length + 1) openCap) (S.length + 1) (cs0 ++ secC y.no y.kind y.name iv) ((rS, .cells tS (cs0 ++ secC y.no y.kind y.name iv)) :: (HY ++ (IY ++ (Y ++ F)))) := .inr ⟨rS, rfl, by simp [hl]; omega, rfl⟩
    have hsl : S.length + 1 ≤ 48 := by
      have h1 := hok.secs; have h2 := hok.c1; have h3 := hok.c2
      simp at h1; omega
    repeat refine LS.seq ?_
    refine LS.sub (Sub.sums (A := (rd, dRow hv (.slice (some ⟨rS, 0, none⟩) (S.length + 1) openCap) rr rc rs) :: (rs, .map em2 km2) :: (r5, .cells tS (secC no (kindOf w) n (.slice none 0 0))) :: (rr, .map es ck) :: (rc, .map ec2 kc2) :: (rS, .cells tS (cs0 ++ secC y.no y.kind y.name iv)) :: (HY ++ (IY ++ (Y ++ F)))) fun f => by simp <;> omega) ?_
    repeat refine LS.seq ?_
    refine LS.drawn noGo mixed [(0, false), (1, false), (2, false), (3, false), (4, false), (5, false), (6, false), (7, true), (8, true), (9, false), (10, false), (11, false), (12, true)] rfl rfl (by kernel_rfl) ?_
    refine yG ?_
    refine ODS.fresh rfl rfl (e_new (fun _ => rfl) rfl) (fun _ => rfl) (fun _ => Keep.gone rfl (Keep.cons rfl (e_load 1 rfl rfl rfl rfl rfl) Keep.nil)) (fun rt => ?_)
    refine ODS.fresh rfl rfl (e_appendGV [(rt, _), (rd, _), (rs, _), (r5, _), (rr, _), (rc, _)] (e := tS) (sz := 4) (bts := 56) (m := 1) hgs (SV.row (sz := 4) (n := 1) (List.mem_cons_self ..) rfl) (by omega) rfl rfl rfl rfl (by omega) (by omega)) (fun _ => rfl) (fun _ => Keep.gone rfl (Keep.gone rfl Keep.nil)) (fun r2 => ?_)
    refine yG ?_
    refine ODS.write rfl rfl (e_store 2 rfl rfl rfl rfl rfl rfl rfl rfl) rfl (Keep.gone rfl (Keep.gone rfl Keep.nil)) ?_
    refine yG ?_
    refine ⟨(rd, dRow hv (.slice (some ⟨r2, 0, none⟩) (S.length + 1 + 1) openCap) rr rc rs) :: (rr, .map es ck) :: (rc, .map ec2 kc2) :: (rs, .map em2 km2) :: (HY ++ ([(r2, .cells tS ((cs0 ++ secC y.no y.kind y.name iv) ++ secC no (kindOf w) n (.slice none 0 0)))] ++ ([] ++ ((IY ++ Y) ++ F)))), (?_ : Sub _ ((r2, ARow.cells tS ((cs0 ++ secC y.no y.kind y.name iv) ++ secC no (kindOf w) n (.slice none 0 0))) :: (rt, _) :: (rd, dRow hv (.slice (some ⟨r2, 0, none⟩) (S.length + 1 + 1) openCap) rr rc rs) :: _)), rfl, _, ⟨rr, rc, rs, es, ck, ec2, kc2, em2, km2, hv, _, HY, _, [], fc2, fm2, rfl, hBF, hok2, (hR.mono m1), ⟨hK1, hC3⟩, ⟨hN1, hN2, hM4⟩, (by rw [show S.length + 1 + 1 = (S ++ [y]).length + 1 by simp]; exact .some (S := S ++ [y]) (y := ⟨no, kindOf w, n, []⟩) hh (hI.mono m1) ((hS.mono m1).snoc ⟨(hg.appendR (Y ++ B)).sv.up m2, hy.mono m1⟩) .nil rfl)⟩⟩
    refine Sub.trans (Sub.sums fun f => ?_) (Sub.trans (Sub.drop 3 rfl) (Sub.drop 1 rfl))
    simp <;> omega
end
end Go.Proofs.YtllcbjaajffaeaaGreatDoor
