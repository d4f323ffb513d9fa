import Derived.Test.YtllcbjaajffaeaaGreatDoorRj
namespace Go.Proofs.YtllcbjaajffaeaaGreatDoor
open Go.Am Go.Pd
set_option linter.unusedVariables false
set_option maxRecDepth 20000
set_option maxHeartbeats 4000000
attribute [local irreducible] OS LSr ODS CS YS
theorem once_cases {w : W} (h : once w = true) : w = kWhen ∨ w = kTries ∨ w = kLimit ∨ w = kManual ∨ w = kAxis := by simpa [once] using h
theorem head_eq {a a' : List W} (h : a ≠ []) (h' : a' ≠ []) : a.headD [] = a'.headD [] ↔ a.head? = a'.head? := by
  cases a with
  | nil => exact absurd rfl h
  | cons x a => cases a' with
    | nil => exact absurd rfl h'
    | cons y a' => simp
theorem mtext_iff {w w' : W} {a a' : List W} (h : once w = true) (h' : once w' = true) (ha : w = kAxis → a ≠ []) (ha' : w' = kAxis → a' ≠ []) : mtext w' a' = mtext w a ↔ (w = w' ∧ (¬ w' = kAxis ∨ a.head? = a'.head?)) := by
  by_cases hw : w = kAxis
  · by_cases hw' : w' = kAxis
    · subst hw; subst hw'
      have : mtext kAxis a' = mtext kAxis a ↔ a'.headD [] = a.headD [] := by simp [mtext, jn2]
      rw [this, head_eq (ha' rfl) (ha rfl)]
      simp [eq_comm]
    · subst hw
      constructor
      · intro e
        rw [mtext, if_neg hw', mtext, if_pos rfl] at e
        rcases once_cases h' with rfl | rfl | rfl | rfl | rfl <;> first | exact absurd rfl hw' | simp [jn2, kAxis, kWhen, kTries, kLimit, kManual] at e
      · rintro ⟨rfl, _⟩; exact absurd rfl hw'
  · by_cases hw' : w' = kAxis
    · subst hw'
      constructor
      · intro e
        rw [mtext, if_pos rfl, mtext, if_neg hw] at e
        rcases once_cases h with rfl | rfl | rfl | rfl | rfl <;> first | exact absurd rfl hw | simp [jn2, kAxis, kWhen, kTries, kLimit, kManual] at e
      · rintro ⟨rfl, _⟩; exact absurd rfl hw
    · rw [mtext, if_neg hw', mtext, if_neg hw]
      constructor
      · intro e; exact ⟨e.symm, .inl hw'⟩
      · rintro ⟨rfl, _⟩; rfl
theorem twice_snoc (l : List It) (x : It) (w : W) (a : List W) : twice (l ++ [x]) w a = (twice l w a || (once w && (decide (x.word = w) && (!decide (w = kAxis) || decide (x.args.head? = a.head?))))) := by
  unfold twice
  rw [List.any_append]
  cases once w <;> simp
theorem last_snoc (h : List It) (S : List Se) (y : Se) : (Dc.mk h (S ++ [y])).last = (y.kind, y.items) := by simp [Dc.last]
theorem MarkOk.add {fm fm2 : Value → Option Value} {h : List It} {S : List Se} {y : Se} {x : It} (hm : MarkOk fm ⟨h, S ++ [y]⟩) (ho : once x.word = true) (ha : x.word = kAxis → x.args ≠ []) (h1 : ∀ k, k ≠ mkV (S.length + 1) (mtext x.word x.args) → fm2 k = fm k) (h2 : (fm2 (mkV (S.length + 1) (mtext x.word x.args))).isSome) : MarkOk fm2 ⟨h, S ++ [⟨y.no, y.kind, y.name, y.items ++ [x]⟩]⟩ := by
  have hl : ∀ z : Se, (S ++ [z]).length = S.length + 1 := fun z => by simp
  refine ⟨fun w n hw => ?_, fun w a how haw _ => ?_, fun k t hk => ?_⟩
  · rw [h1 _ fun e => by have := (mkV_inj e).1; omega, hm.sec w n hw]
    simp
  · have := hm.item w a how haw (by simp)
    rw [last_snoc] at this ⊢
    simp only [hl] at this ⊢
    rw [twice_snoc, how]
    by_cases he : mtext w a = mtext x.word x.args
    · have h3 := (mtext_iff ho how ha haw).1 he
      rw [he]
      refine ⟨fun _ => ?_, fun _ => h2⟩
      rw [decide_eq_true h3.1]
      rcases h3.2 with h | h
      · simp [h]
      · simp [h]
    · rw [h1 _ fun e => he (mkV_inj e).2, this]
      have h3 : ¬ (x.word = w ∧ (¬ w = kAxis ∨ x.args.head? = a.head?)) := fun h => he ((mtext_iff ho how ha haw).2 h)
      have h4 : (decide (x.word = w) && (!decide (w = kAxis) || decide (x.args.head? = a.head?))) = false := by
        rw [Bool.eq_false_iff]
        intro hh
        simp only [Bool.and_eq_true, Bool.or_eq_true, decide_eq_true_eq, Bool.not_eq_true', decide_eq_false_iff_not] at hh
        exact h3 hh
      rw [h4]; simp
  · simp only [hl] at hk
    rw [h1 _ fun e => by have := (mkV_inj e).1; omega]
    exact hm.next k t (by simp only [hl]; exact hk)
theorem MarkOk.addN {fm : Value → Option Value} {h : List It} {S : List Se} {y : Se} {x : It} (hm : MarkOk fm ⟨h, S ++ [y]⟩) (ho : once x.word = false) : MarkOk fm ⟨h, S ++ [⟨y.no, y.kind, y.name, y.items ++ [x]⟩]⟩ := by
  have hl : ∀ z : Se, (S ++ [z]).length = S.length + 1 := fun z => by simp
  refine ⟨fun w n hw => ?_, fun w a how haw _ => ?_, fun k t hk => ?_⟩
  · rw [hm.sec w n hw]; simp
  · have := hm.item w a how haw (by simp)
    rw [last_snoc] at this ⊢
    simp only [hl] at this ⊢
    rw [twice_snoc, how, this]
    have : ¬ x.word = w := fun e => by rw [← e, ho] at how; cases how
    simp [this]
  · simp only [hl] at hk
    exact hm.next k t (by simp only [hl]; exact hk)
theorem MarkOk.addH {fm : Value → Option Value} {h : List It} {x : It} (hm : MarkOk fm ⟨h, []⟩) : MarkOk fm ⟨h ++ [x], []⟩ :=
  ⟨fun w n hw => hm.sec w n hw, fun w a how haw hne => absurd rfl hne, fun k t hk => hm.next k t hk⟩
theorem DcOk.addH {h : List It} {x : It} (hd : DcOk ⟨h, []⟩) (hl : h.length < 40) : DcOk ⟨h ++ [x], []⟩ := ⟨by simp; omega, hd.items, hd.secs, hd.c1, hd.c2⟩
theorem cnt_last (h : List It) (S : List Se) (y z : Se) (hk : z.kind = y.kind) (c : UInt8) : cnt ⟨h, S ++ [z]⟩ c = cnt ⟨h, S ++ [y]⟩ c := by unfold cnt; simp [List.filter_append, List.filter_cons, hk]; split <;> rfl
theorem DcOk.add {h : List It} {S : List Se} {y : Se} {x : It} (hd : DcOk ⟨h, S ++ [y]⟩) (hl : y.items.length < 40) : DcOk ⟨h, S ++ [⟨y.no, y.kind, y.name, y.items ++ [x]⟩]⟩ := by
  have e := cnt_last h S y ⟨y.no, y.kind, y.name, y.items ++ [x]⟩ rfl
  refine ⟨hd.head, fun s hs => ?_, ?_, by rw [e]; exact hd.c1, by rw [e]; exact hd.c2⟩
  · rcases List.mem_append.1 hs with hs | hs
    · exact hd.items s (List.mem_append_left _ hs)
    · simp at hs; subst hs; simp; omega
  · rw [e, e, ← hd.secs]; simp
theorem lay_last {cs0 : List Value} {n : Nat} {a b c u v : Value} (hl : cs0.length = n * 4) : lay (cs0 ++ [a, b, c, u]) (n * 4 + 3) [v] = some (cs0 ++ [a, b, c, v]) := by
  have hlt : n * 4 + 3 < (cs0 ++ [a, b, c, u]).length := by simp [hl]
  rw [lay_one hlt, List.set_append_right _ _ (by omega), hl, show n * 4 + 3 - n * 4 = 3 by omega]
  rfl
section
variable {F L Y B : RL} {rd : Nat} {d : Dc}
def Called (d : Dc) (w : W) (a A : List W) : Prop := (A = [] ∧ once w = false) ∨ (A ≠ [] ∧ A.length ≤ 1000 ∧ once w = true ∧ Lib.join A [32] = mtext w a ∧ (mtext w a).length ≤ 1000000 ∧ (w = kAxis → a ≠ []) ∧ d.secs ≠ [])
theorem add_ct {no : Int} {w : W} {a A : List W} {cv av : Value} (h : DS rd d Y B F L) (hcv : SV 1 (Y ++ F) cv A.length (strs A)) (hA : Called d w a A) (hav : Wd (Y ++ B) av a) :
    CS Tryz.prog 139 [ptr rd, cv, .agg #[.int .i64 no, str w, av]] L fun v L' => Res rd B F (if twice d.last.2 w a = true then .error 6 else if 40 ≤ d.last.2.length then .error 3 else .ok (d.add ⟨no, w, a⟩)) v L' := by
  obtain ⟨rr, rc, rs, es, ck, ec, kc, em, km, hv, sv, HY, SY, IY, fc, fm, rfl, hBF, hok, hR, ⟨hC1, hC2⟩, ⟨hM1, hM2, hM3⟩, hD⟩ := h.ex
  obtain ⟨avA, avc, rfl⟩ := hav.form
  cases hD with
  | none hh hI =>
    rename_i hd cs
    obtain ⟨rfl, ho⟩ : A = [] ∧ once w = false := by
      rcases hA with h | h
      · exact h
      · exact absurd rfl h.2.2.2.2.2.2
    have htw : twice (Dc.mk hd []).last.2 w a = false := by unfold twice; rw [ho]; rfl
    rw [if_neg (by rw [htw]; simp)]
    show CS _ _ _ _ fun v L' => Res rd B F (if 40 ≤ hd.length then .error 3 else .ok ⟨hd ++ [⟨no, w, a⟩], []⟩) v L'
    suffices h2 : CS Tryz.prog 139 [ptr rd, cv, .agg #[.int .i64 no, str w, .slice avA a.length avc]] ((rd, dRow hv (.slice none 0 0) rr rc rs) :: (rr, .map es ck) :: (rc, .map ec kc) :: (rs, .map em km) :: (HY ++ ([] ++ ([] ++ (Y ++ F))))) fun v L' => ∃ L₁, Sub L₁ L' ∧ Res rd B F (if 40 ≤ hd.length then .error 3 else .ok ⟨hd ++ [⟨no, w, a⟩], []⟩) v L₁ from
      h2.less fun v L' h => h
    have hhl := hok.head
    have hlen := hI.len
    have hb0 : (!ileB ((([] : List W).length : Nat) : Int) 0) = false := rfl
    refine CS.mk (fn := Tryz.f139) rfl rfl rfl rfl ?_
    refine yG ?_
    refine OS.fresh rfl (e_new (fun _ => rfl) rfl) (fun _ => rfl) (fun r5 => ?_)
    show OS _ _ _ _ ((r5, ARow.cells tI [.int .i64 no, str w, .slice avA a.length avc]) :: _) _
    refine yG ?_
    refine OS.sub (Sub.pulls [1] rfl) ?_
    refine OS.call noGo rfl (fun _ => rfl) ((last_none).mono ?_)
    rintro v L' ⟨rfl, rfl⟩
    refine ⟨_, rfl, ?_⟩
    have hsv := hh.sv
    by_cases hfull : 40 ≤ hd.length
    · have hb : ieqB ((hd.length : Nat) : Int) 40 = true := by rw [ieqB_eq]; simp at hhl ⊢; omega
      rw [if_pos hfull]
      refine yG ?_
      exact ⟨_, Sub.drops 0 rfl, rfl, by decide, by repeat (first | exact Ends.nil | apply Ends.cons | apply Ends.app)⟩
    have hb : ieqB ((hd.length : Nat) : Int) 40 = false := by rw [ieqB_eq]; simp; omega
    rw [if_neg hfull]
    refine yG ?_
    repeat refine LS.seq ?_
    refine LS.drawn noGo mixed [(0, false), (1, false), (2, false), (3, false), (4, false), (5, true), (6, true), (7, false), (8, true)] rfl rfl (by kernel_rfl) ?_
    refine yG ?_
    refine ODS.fresh rfl rfl (e_new (fun _ => rfl) rfl) (fun _ => rfl) (fun _ => Keep.gone rfl (Keep.cons rfl (e_load 1 rfl rfl rfl rfl rfl) Keep.nil)) (fun rt => ?_)
    refine ODS.fresh rfl rfl (e_appendGV [(rt, _), (rd, _), (r5, _), (rr, _), (rc, _), (rs, _)] (e := tI) (sz := 3) (bts := 48) (m := 1) (hh.appendR (Y ++ F)) (SV.row (sz := 3) (n := 1) (List.mem_cons_self ..) rfl) (by omega) rfl rfl rfl rfl (by omega) (by omega)) (fun _ => rfl) (fun _ => Keep.gone rfl (Keep.gone rfl Keep.nil)) (fun r2 => ?_)
    refine yG ?_
    refine ODS.write rfl rfl (e_store 2 rfl rfl rfl rfl rfl rfl rfl rfl) rfl (Keep.gone rfl (Keep.gone rfl Keep.nil)) ?_
    refine yG ?_
    refine ⟨(rd, dRow (.slice (some ⟨r2, 0, none⟩) (hd.length + 1) openCap) (.slice none 0 0) rr rc rs) :: (rr, .map es ck) :: (rc, .map ec kc) :: (rs, .map em km) :: ([(r2, .cells tI (cs ++ [.int .i64 no, str w, .slice avA a.length avc]))] ++ ([] ++ ([] ++ (Y ++ F)))), (?_ : Sub _ ((r2, ARow.cells tI (cs ++ [.int .i64 no, str w, .slice avA a.length avc])) :: (rt, _) :: (rd, dRow (.slice (some ⟨r2, 0, none⟩) (hd.length + 1) openCap) (.slice none 0 0) rr rc rs) :: _)), rfl, _, ⟨rr, rc, rs, es, ck, ec, kc, em, km, _, _, [(r2, .cells tI (cs ++ [.int .i64 no, str w, .slice avA a.length avc]))], [], [], fc, fm, rfl, hBF, hok.addH (by omega), hR, ⟨hC1, hC2⟩, ⟨hM1, hM2, hM3.addH⟩, .none ?_ (hI.snoc (x := ⟨no, w, a⟩) hav)⟩⟩
    · refine Sub.trans (Sub.sums fun f => ?_) (Sub.trans (Sub.drop 2 rfl) (Sub.drop 1 rfl))
      simp <;> omega
    · rw [List.length_append]
      exact .of (by simp [hlen]; omega)
  | some hh hI hS hg hy =>
    rename_i hd cs S y cs0 ics iv rS
    obtain hl := hS.len
    have e1 : (Dc.mk hd (S ++ [y])).last.2 = y.items := by rw [last_snoc]
    have e2 : (Dc.mk hd (S ++ [y])).add ⟨no, w, a⟩ = ⟨hd, S ++ [⟨y.no, y.kind, y.name, y.items ++ [⟨no, w, a⟩]⟩]⟩ := add_last ..
    have e3 : (S ++ [y]).length = S.length + 1 := by simp
    have hsl : S.length + 1 ≤ 48 := by
      have h1 := hok.secs; have h2 := hok.c1; have h3 := hok.c2
      simp at h1; omega
    have hil : y.items.length ≤ 40 := hok.items y (by simp)
    have hitem := hM3.item
    rw [e1, e2]
    refine CS.sub (L' := (rd, dRow hv (.slice (some ⟨rS, 0, none⟩) (S.length + 1) openCap) rr rc rs) :: (rs, .map em km) :: (rr, .map es ck) :: (rc, .map ec kc) :: (rS, .cells tS (cs0 ++ secC y.no y.kind y.name iv)) :: (IY ++ (HY ++ (Y ++ F)))) (Sub.sums fun f => by simp <;> omega) ?_
    suffices h2 : CS Tryz.prog 139 [ptr rd, cv, .agg #[.int .i64 no, str w, .slice avA a.length avc]] ((rd, dRow hv (.slice (some ⟨rS, 0, none⟩) (S.length + 1) openCap) rr rc rs) :: (rs, .map em km) :: (rr, .map es ck) :: (rc, .map ec kc) :: (rS, .cells tS (cs0 ++ secC y.no y.kind y.name iv)) :: (IY ++ (HY ++ (Y ++ F)))) fun v L' => ∃ L₁, Sub L₁ L' ∧ Res rd B F (if twice y.items w a = true then .error 6 else if 40 ≤ y.items.length then .error 3 else .ok ⟨hd, S ++ [⟨y.no, y.kind, y.name, y.items ++ [⟨no, w, a⟩]⟩]⟩) v L₁ from
      h2.less fun v L' h => h
    refine CS.mk (fn := Tryz.f139) rfl rfl rfl rfl ?_
    refine yG ?_
    refine OS.fresh rfl (e_new (fun _ => rfl) rfl) (fun _ => rfl) (fun r5 => ?_)
    show OS _ _ _ _ ((r5, ARow.cells tI [.int .i64 no, str w, .slice avA a.length avc]) :: _) _
    refine OS.pure rfl (fun _ => rfl) rfl ?_
    refine OS.sub (Sub.pulls [2, 2] rfl) ?_
    refine OS.nil ?_
    refine LS.seq ?_
    refine LS.mid [0, 5, 6] (fun s L' => ∃ em2 km2 fm2, s = [ptr rd, .chan none, .chan none, .chan none, .chan none, ptr r5, .nilIface, .chan none, .chan none, .chan none, .chan none, .chan none, .chan none, .chan none, .chan none, .chan none, .chan none, .chan none, .chan none, .chan none, .chan none, .chan none, .chan none, .chan none, .chan none, .chan none, .chan none, .chan none, .chan none, .chan none, .chan none, .chan none, .chan none, .chan none, .chan none, .chan none, .chan none, .chan none, .chan none, .chan none, .chan none, .chan none, .chan none, .chan none, .chan none, .chan none, .chan none, .chan none, .chan none, .chan none] ∧ L' = (rd, dRow hv (.slice (some ⟨rS, 0, none⟩) (S.length + 1) openCap) rr rc rs) :: (rs, .map em2 km2) :: (r5, .cells tI [.int .i64 no, str w, .slice avA a.length avc]) :: (rr, .map es ck) :: (rc, .map ec kc) :: (rS, .cells tS (cs0 ++ secC y.no y.kind y.name iv)) :: (IY ++ (HY ++ (Y ++ F))) ∧ twice y.items w a = false ∧ MapIs DM em2 fm2 ∧ (∀ k v, fm2 k = some v → v = .agg #[]) ∧ MarkOk fm2 ⟨hd, S ++ [⟨y.no, y.kind, y.name, y.items ++ [⟨no, w, a⟩]⟩]⟩) ?_ ?_
    · rcases hA with ⟨rfl, ho⟩ | ⟨hA, hAl, ho, hj, hjl, hax, _⟩
      · have hb0 : (!ileB ((([] : List W).length : Nat) : Int) 0) = false := rfl
        refine yG ?_
        exact ⟨em, km, fm, rfl, rfl, by unfold twice; rw [ho]; rfl, hM1, hM2, hM3.addN ho⟩
      · have hA1 : 1 ≤ A.length := by cases A with
          | nil => exact absurd rfl hA
          | cons => simp
        have hb0 : (!ileB ((A.length : Nat) : Int) 0) = true := by rw [ileB_eq]; simp; omega
        refine yG ?_
        refine OS.call noGo rfl (fun _ => rfl) ((isFirst_ct (n := S.length + 1) hM1 hM2 (hcv.up fun p hp => by simp at hp ⊢; rcases hp with hp | hp <;> simp [hp]) hA hAl (by rw [hj]; exact hjl)).mono ?_)
        rintro v L' ⟨em2, km2, fm2, rfl, rfl, hN1, hN2, hN3, hN4⟩
        rw [hj] at hN3 hN4 ⊢
        have hit := hM3.item w a ho hax (by simp)
        rw [e1] at hit
        simp only [e3] at hit
        rcases tf (twice y.items w a) with htw | htw
        · rw [hit.2 htw]
          refine ⟨_, rfl, ?_⟩
          refine yG ?_
          rw [if_pos htw]
          exact ⟨_, Sub.drops 0 rfl, rfl, by decide, by repeat (first | exact Ends.nil | apply Ends.cons | apply Ends.app)⟩
        · have hnn : (fm (mkV (S.length + 1) (mtext w a))).isSome = false := by
            rw [Bool.eq_false_iff]
            intro hs
            rw [hit.1 hs] at htw; cases htw
          rw [hnn]
          refine ⟨_, rfl, ?_⟩
          refine yG ?_
          exact ⟨em2, km2, fm2, rfl, rfl, htw, hN1, hN2, hM3.add (x := ⟨no, w, a⟩) ho hax hN3 hN4⟩
    rintro s L' ⟨em2, km2, fm2, rfl, rfl, htw, hN1, hN2, hN3⟩
    rw [if_neg (by rw [htw]; simp)]
    have hcn : ∀ c, cnt ⟨hd, S ++ [⟨y.no, y.kind, y.name, y.items ++ [(⟨no, w, a⟩ : It)]⟩]⟩ c = cnt ⟨hd, S ++ [y]⟩ c := cnt_last hd S y _ rfl
    have hsv := hg.sv
    have hlen := hy.len
    have g3 : (cs0 ++ secC y.no y.kind y.name iv)[S.length * 4 + 3]? = some iv := by rw [List.getElem?_append_right (by omega), hl]; simp
    refine yG ?_
    refine OS.call noGo rfl (fun _ => rfl) ((last_some (by omega)).mono ?_)
    rintro v L' ⟨rfl, rfl⟩
    refine ⟨_, rfl, ?_⟩
    refine yG ?_
    refine OS.read rfl (e_load 5 rfl rfl rfl rfl (part_one rfl g3)) rfl ?_
    by_cases hfull : 40 ≤ y.items.length
    · have hb : ieqB ((y.items.length : Nat) : Int) 40 = true := by rw [ieqB_eq]; simp; omega
      rw [if_pos hfull]
      refine yG ?_
      exact ⟨_, Sub.drops 0 rfl, rfl, by decide, by repeat (first | exact Ends.nil | apply Ends.cons | apply Ends.app)⟩
    have hb : ieqB ((y.items.length : Nat) : Int) 40 = false := by rw [ieqB_eq]; simp; omega
    rw [if_neg hfull]
    refine yG ?_
    repeat refine LS.seq ?_
    refine LS.drawn noGo mixed [(0, false), (1, false), (2, false), (3, false), (4, false), (5, true), (6, true), (7, false), (8, true)] rfl rfl (by kernel_rfl) ?_
    refine yG ?_
    refine ODS.read rfl rfl (e_load 5 rfl rfl rfl rfl (part_one rfl g3)) rfl ?_
    refine yG ?_
    refine ODS.fresh rfl rfl (e_new (fun _ => rfl) rfl) (fun _ => rfl) (fun _ => Keep.gone rfl (Keep.cons rfl (e_load 6 rfl rfl rfl rfl (part_one rfl g3)) Keep.nil)) (fun rt => ?_)
    refine ODS.fresh rfl rfl (e_appendGV [(rt, _), (rd, _), (rs, _), (r5, _), (rr, _), (rc, _), (rS, _)] (e := tI) (sz := 3) (bts := 48) (m := 1) (hg.appendR (HY ++ (Y ++ F))) (SV.row (sz := 3) (n := 1) (List.mem_cons_self ..) rfl) (by omega) rfl rfl rfl rfl (by omega) (by omega)) (fun _ => rfl) (fun _ => Keep.gone rfl (Keep.gone rfl Keep.nil)) (fun r2 => ?_)
    refine yG ?_
    refine ODS.write rfl rfl (e_store 7 (n := 1) rfl rfl rfl rfl rfl rfl (lay_last hl) rfl) rfl (Keep.gone rfl (Keep.gone rfl Keep.nil)) ?_
    refine yG ?_
    refine ⟨(rd, dRow hv (.slice (some ⟨rS, 0, none⟩) (S.length + 1) openCap) rr rc rs) :: (rr, .map es ck) :: (rc, .map ec kc) :: (rs, .map em2 km2) :: (HY ++ ([(rS, .cells tS (cs0 ++ secC y.no y.kind y.name (.slice (some ⟨r2, 0, none⟩) (y.items.length + 1) openCap)))] ++ ([(r2, .cells tI (ics ++ [.int .i64 no, str w, .slice avA a.length avc]))] ++ (Y ++ F)))), (?_ : Sub _ ((r2, ARow.cells tI (ics ++ [.int .i64 no, str w, .slice avA a.length avc])) :: (rt, _) :: (rd, dRow hv (.slice (some ⟨rS, 0, none⟩) (S.length + 1) openCap) rr rc rs) :: (rs, .map em2 km2) :: (r5, _) :: (rr, .map es ck) :: (rc, .map ec kc) :: (rS, ARow.cells tS (cs0 ++ secC y.no y.kind y.name (.slice (some ⟨r2, 0, none⟩) (y.items.length + 1) openCap))) :: _)), rfl, _, ⟨rr, rc, rs, es, ck, ec, kc, em2, km2, _, _, HY, _, _, fc, fm2, rfl, hBF, hok.add (by omega), hR, ⟨hC1, fun c hc => by rw [hcn]; exact hC2 c hc⟩, ⟨hN1, hN2, hN3⟩, .some (y := ⟨y.no, y.kind, y.name, y.items ++ [⟨no, w, a⟩]⟩) hh hI hS ?_ (hy.snoc (x := ⟨no, w, a⟩) hav)⟩⟩
    · refine Sub.trans (Sub.sums fun f => ?_) (Sub.trans (Sub.drop 3 rfl) (Sub.drop 1 rfl))
      simp <;> omega
    · rw [List.length_append]
      exact .of (by simp [hlen]; omega)
end
end Go.Proofs.YtllcbjaajffaeaaGreatDoor
