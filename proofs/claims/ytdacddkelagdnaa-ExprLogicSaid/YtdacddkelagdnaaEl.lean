/- Layer 11: the document's Row and Value, and whether texts are the same. -/
import Derived.Test.YtdacddkelagdnaaEk
namespace Go.Proofs.Ytdacddkelagdnaa
open Go.Am
set_option linter.unusedVariables false
set_option maxRecDepth 20000
set_option maxHeartbeats 4000000
attribute [local irreducible] OS LSr ODS CS

theorem Sd.some {m : Md} {w : List W} {x : X} {r : List W} (h : Sd m w x r) : 0 < (tx m x).length := by
  induction h with
  | cmp h => simp [tx]
  | neg h k ih => exact ih
  | par h k ih => exact ih
  | p1 k h ih => simp [tx] at ih ⊢; exact ih
  | p2 k k' ih ih' => simp [tx] at ih ⊢; omega
  | c1 k h ih => simp [tx] at ih ⊢; exact ih
  | c2 k k' ih ih' => simp [tx] at ih ⊢; omega
theorem gl_nil (res : Rs) : res.gl [] = res := by cases res <;> rfl
theorem gl_gl (res : Rs) (x : X) (a : List X) : (res.gl [x]).gl a = res.gl (a ++ [x]) := by cases res <;> simp [Rs.gl, gl]
theorem ev_glp (a : List X) (p : X) : ev .p (gl a p) = (a.all (ev .t) && ev .p p) := by
  induction a with
  | nil => rfl
  | cons x a ih =>
    show (ev .t x && ev .p (gl a p)) = _
    rw [ih, List.all_cons, Bool.and_assoc]
theorem ev_glc (a : List X) (p : X) : ev .c (gl a p) = (a.any (ev .p) || ev .c p) := by
  induction a with
  | nil => rfl
  | cons x a ih =>
    show (ev .p x || ev .c (gl a p)) = _
    rw [ih, List.any_cons, Bool.or_assoc]
theorem tx_glp (a : List X) (p : X) : tx .p (gl a p) = a.flatMap (tx .t) ++ tx .p p := by
  induction a with
  | nil => rfl
  | cons x a ih =>
    show tx .t x ++ tx .p (gl a p) = _
    rw [ih, List.flatMap_cons, List.append_assoc]
theorem tx_glc (a : List X) (p : X) : tx .c (gl a p) = a.flatMap (tx .p) ++ tx .c p := by
  induction a with
  | nil => rfl
  | cons x a ih =>
    show tx .p x ++ tx .c (gl a p) = _
    rw [ih, List.flatMap_cons, List.append_assoc]
/-- What comes of a row from here on: parts that were told, terms of the part that stands. -/
def fin (d : Nat) (aC aP : List X) (kp kc : Nat) (w : List W) : Rs := (((pr kp .p d w).gl aP).bind fun p r => if r.head? = some wOr then (pr kc .c d r.tail).gl [p] else .ok (.cons p .nil) r).gl aC
theorem fin_start {d k : Nat} {w : List W} : pr (k + 1) .c d w = fin d [] [] k k w := by
  unfold fin
  rw [pr_c, gl_nil, gl_nil]
section
variable {d kp kc : Nat} {aC aP : List X} {w r : List W} {t : X}
theorem fin_err {e : Nat} (h : pr kp .t d w = .err e) : fin d aC aP (kp + 1) kc w = .err e := by
  unfold fin
  rw [pr_p, h]; rfl
theorem fin_and (h : pr kp .t d w = .ok t (wAnd :: r)) : fin d aC aP (kp + 1) kc w = fin d aC (aP ++ [t]) kp kc r := by
  unfold fin
  rw [pr_p, h]
  simp only [Rs.bind, List.head?_cons, if_true, List.tail_cons, gl_gl]
theorem fin_end (h : pr kp .t d w = .ok t r) (hr : r.head? ≠ some wAnd) (ho : r.head? ≠ some wOr) : fin d aC aP (kp + 1) kc w = .ok (gl aC (.cons (gl aP (.cons t .nil)) .nil)) r := by
  unfold fin
  rw [pr_p, h]
  simp only [Rs.bind, hr, if_false, Rs.gl, ho]
theorem fin_or (h : pr kp .t d w = .ok t (wOr :: r)) : fin d aC aP (kp + 1) (kc + 1) w = fin d (aC ++ [gl aP (.cons t .nil)]) [] kc kc r := by
  have hne : (wOr :: r).head? ≠ some wAnd := by simp [wOr, wAnd]
  have e1 : (((Rs.ok t (wOr :: r)).bind fun t r => if r.head? = some wAnd then (pr kp .p d r.tail).gl [t] else .ok (.cons t .nil) r)).gl aP = .ok (gl aP (.cons t .nil)) (wOr :: r) := by
    show (if (wOr :: r).head? = some wAnd then (pr kp .p d r).gl [t] else Rs.ok (.cons t .nil) (wOr :: r)).gl aP = _
    rw [if_neg hne]; rfl
  unfold fin
  rw [pr_p, h, e1]
  show (if (wOr :: r).head? = some wOr then ((pr (kc + 1) .c d r).gl [gl aP (.cons t .nil)]) else Rs.ok (.cons (gl aP (.cons t .nil)) .nil) (wOr :: r)).gl aC = _
  rw [if_pos (show (wOr :: r).head? = some wOr from rfl), gl_gl, pr_c, gl_nil]
end
theorem refRow_ct {N : Nat} (iht : Dt 29 .t N) : Dt 26 .c N := by
  intro d i k s ws F hs hf hi hN hd hk
  have hf1 := hf.1
  have hdl : (ws.drop i).length = ws.length - i := List.length_drop
  cases k with
  | zero => simp [fuel, Md.n] at hk
  | succ k =>
  simp [fuel, Md.n] at hk
  apply DPos2.less
  generalize hres : pr (k + 1) .c d (ws.drop i) = res
  rw [fin_start] at hres
  refine CS.mk (fn := Try.f26) rfl rfl rfl rfl ?_
  refine yG ?_
  refine LS.loopJ [0, 1, 2, 10, 11, 12] (fun q a L' => ∃ (aC aP : List X) (kp kc i' : Nat) (u : Value) (T : List W), q = ws.length - i' ∧ i' ≤ ws.length ∧ i ≤ i' ∧ fin d aC aP kp kc (ws.drop i') = res ∧ 3 * (ws.length - i') + 2 ≤ kp ∧ 3 * (ws.length - i') ≤ kc ∧ T = aC.flatMap (tx .p) ++ aP.flatMap (tx .t) ∧ T.length ≤ i' ∧ GT F u T L' ∧
    a = [s, .int .i64 (i' : Nat), .int .i64 (d : Nat), .chan none, .chan none, .chan none, .chan none, .chan none, .chan none, .chan none, .bool (aC.any (ev .p)), .bool (aP.all (ev .t)), u, .chan none, .chan none, .chan none, .chan none, .chan none, .chan none, .chan none, .chan none, .chan none, .chan none, .chan none, .chan none, .chan none, .chan none, .chan none, .chan none, .chan none, .chan none, .chan none, .chan none, .chan none, .chan none, .chan none, .chan none, .chan none, .chan none, .chan none, .chan none, .chan none, .chan none, .chan none, .chan none, .chan none, .chan none, .chan none, .chan none, .chan none, .chan none, .chan none, .chan none, .chan none, .chan none, .chan none, .chan none, .chan none, .chan none, .chan none, .chan none, .chan none, .chan none, .chan none, .chan none, .chan none, .chan none, .chan none, .chan none, .chan none, .chan none]) (n := ws.length - i) rfl ⟨[], [], k, k, i, .slice none 0 0, [], rfl, hi, Nat.le_refl _, hres, by omega, by omega, rfl, by simp, .nil, rfl⟩ ?_
  rintro q a L' ⟨aC, aP, kp, kc, i', u, T, rfl, hi', hii, hfin, hkp, hkc, hT, hTl, hg, rfl⟩
  cases kp with
  | zero => omega
  | succ kp =>
  have hdl' : (ws.drop i').length = ws.length - i' := List.length_drop
  have hsL := hs.mono hg.mem
  have hI := iht d i' kp s ws L' hsL hf hi' (by omega) hd (by simp [fuel, Md.n]; omega)
  obtain ⟨rt, hrt⟩ : ∃ rt, pr kp .t d (ws.drop i') = rt := ⟨_, rfl⟩
  rw [hrt] at hI
  repeat refine LS.seq ?_
  refine LS.block ?_
  refine yG ?_
  refine OS.call noGo rfl (fun _ => rfl) ((hI).mono ?_)
  cases rt with
  | err e =>
    rintro v L' ⟨k', rfl, he, hL⟩
    rw [hL]
    clear hL
    rw [fin_err hrt] at hfin
    subst hfin
    rcases he with rfl | rfl
    · refine yG ?_
      exact ⟨.inl rfl, gv_drop hg⟩
    · refine yG ?_
      exact ⟨.inr rfl, gv_drop hg⟩
  | ok t r =>
    have hsd := pr_sd hrt
    have htl := hsd.len
    have hlt := hsd.lt
    rintro v L2 ⟨l, k', rfl, hk', hr', hg2⟩
    have hrl : r.length = ws.length - k' := by rw [hr']; exact List.length_drop
    rcases hg2 with ⟨_, h0, _, _⟩ | ⟨r2, rfl, hcs2, rfl⟩
    · have := hsd.some; omega
    refine yG ?_
    refine OS.fresh rfl (e_appendGV [(r2, .cells 9 (strs (tx .t t)))] (sz := 1) (bts := 16) (m := (tx .t t).length) (new := strs (tx .t t)) hg (SV.row (List.mem_cons_self ..) hcs2) hsd.some (strs_one _) rfl rfl rfl (by omega) (by omega)) (fun _ => rfl) (fun r3 => ?_)
    refine OS.sub (Sub.drop 1 rfl) ?_
    refine OS.sub (L' := (r3, ARow.cells 9 (strs T ++ strs (tx .t t))) :: F) Sub.refl ?_
    have hg3 : GT F (.slice (some ⟨r3, 0, none⟩) (T.length + (tx .t t).length) openCap) (T ++ tx .t t) ((r3, .cells 9 (strs T ++ strs (tx .t t))) :: F) := by
      have := GV.of (e := 9) (r := r3) (F := F) (n := T.length + (tx .t t).length) (sz := 1) (cs := strs T ++ strs (tx .t t)) (by simp [strs_len])
      unfold GT
      rw [strs_app, List.length_append]
      exact this
    have hsR := hs.mono hg3.mem
    have hT1 : T ++ tx .t t = aC.flatMap (tx .p) ++ (aP ++ [t]).flatMap (tx .t) := by rw [hT]; simp
    have hT2 : T ++ tx .t t = (aC ++ [gl aP (.cons t .nil)]).flatMap (tx .p) ++ [] := by rw [hT]; simp [tx_glp, tx]
    have hTl2 : (T ++ tx .t t).length ≤ k' := by rw [List.length_append]; omega
    have hall : (aP ++ [t]).all (ev .t) = (aP.all (ev .t) && ev .t t) := by simp
    have hany : (aC ++ [gl aP (.cons t .nil)]).any (ev .p) = (aC.any (ev .p) || (aP.all (ev .t) && ev .t t)) := by simp [ev_glp, ev]
    have hevc : ev .c (gl aC (.cons (gl aP (.cons t .nil)) .nil)) = (aC ++ [gl aP (.cons t .nil)]).any (ev .p) := by
      rw [gl_snoc, ev_glc]; exact Bool.or_false _
    have htxc : T ++ tx .t t = tx .c (gl aC (.cons (gl aP (.cons t .nil)) .nil)) := by
      rw [gl_snoc, tx_glc, hT2]; rfl
    generalize hpb : aP.all (ev .t) = pb at hall hany ⊢
    generalize hqb : aC.any (ev .p) = qb at hany ⊢
    generalize (r3, ARow.cells 9 (strs T ++ strs (tx .t t))) :: F = M at hg3 hsR ⊢
    generalize Value.slice (some ⟨r3, 0, none⟩) (T.length + (tx .t t).length) openCap = uv at hg3 ⊢
    match r, hr', hrt, hrl with
    | [], hr', hrt, hrl =>
      have hn := dnil hr'.symm
      have hb : (!ileB ((ws.length : Nat) : Int) ((k' : Nat) : Int)) = false := by rw [ileB_eq]; simp; omega
      rw [fin_end hrt (by simp) (by simp)] at hfin
      subst hfin
      cases pb <;> cases qb
      all_goals
        refine yG ?_
        exact ⟨_, k', by rw [hevc, hany]; rfl, hk', hr', hg3.to htxc⟩
    | z :: r', hr', hrt, hrl =>
      obtain ⟨g3, hd3, hk3⟩ := dget hr'.symm
      have hb : (!ileB ((ws.length : Nat) : Int) ((k' : Nat) : Int)) = true := by rw [ileB_eq]; simp; omega
      by_cases h1 : z = wAnd
      · subst h1
        rw [fin_and hrt] at hfin
        cases pb
        all_goals
          refine yG ?_
          refine OS.at1 (j := k') (hsR) (strs_at g3) rfl rfl rfl rfl rfl rfl (fun ra0 oa0 rowa0 csa0 ma0 ca0 ga0 => ⟨_, rfl, ?_⟩)
          refine OS.read rfl (e_loadm ma0 ca0 rfl rfl (part_one rfl ga0)) rfl ?_
          refine yG ?_
          refine LS.exit ?_
          exact ⟨ws.length - (k' + 1), by omega, aC, aP ++ [t], kp, kc, k' + 1, uv, T ++ tx .t t, rfl, by omega, by omega, by rw [hd3]; exact hfin, by omega, by omega, hT1, by omega, hg3, by rw [hall, hqb]; rfl⟩
      have b1 : bytesEq z [97, 110, 100] = false := by rw [beq_bytes]; exact decide_eq_false h1
      by_cases h2 : z = wOr
      · subst h2
        cases kc with
        | zero => omega
        | succ kc =>
        rw [fin_or hrt] at hfin
        cases pb <;> cases qb
        all_goals
          refine yG ?_
          refine OS.at1 (j := k') (hsR) (strs_at g3) rfl rfl rfl rfl rfl rfl (fun ra0 oa0 rowa0 csa0 ma0 ca0 ga0 => ⟨_, rfl, ?_⟩)
          refine OS.read rfl (e_loadm ma0 ca0 rfl rfl (part_one rfl ga0)) rfl ?_
          refine yG ?_
          refine OS.at1 (j := k') (hsR) (strs_at g3) rfl rfl rfl rfl rfl rfl (fun ra2 oa2 rowa2 csa2 ma2 ca2 ga2 => ⟨_, rfl, ?_⟩)
          refine OS.read rfl (e_loadm ma2 ca2 rfl rfl (part_one rfl ga2)) rfl ?_
          refine yG ?_
          refine LS.exit ?_
          exact ⟨ws.length - (k' + 1), by omega, aC ++ [gl aP (.cons t .nil)], [], kc, kc, k' + 1, uv, T ++ tx .t t, rfl, by omega, by omega, by rw [hd3]; exact hfin, by omega, by omega, hT2, by omega, hg3, by rw [hany]; rfl⟩
      have b2 : bytesEq z [111, 114] = false := by rw [beq_bytes]; exact decide_eq_false h2
      rw [fin_end hrt (by simpa using h1) (by simpa using h2)] at hfin
      subst hfin
      cases pb <;> cases qb
      all_goals
        refine yG ?_
        refine OS.at1 (j := k') (hsR) (strs_at g3) rfl rfl rfl rfl rfl rfl (fun ra0 oa0 rowa0 csa0 ma0 ca0 ga0 => ⟨_, rfl, ?_⟩)
        refine OS.read rfl (e_loadm ma0 ca0 rfl rfl (part_one rfl ga0)) rfl ?_
        refine yG ?_
        refine OS.at1 (j := k') (hsR) (strs_at g3) rfl rfl rfl rfl rfl rfl (fun ra2 oa2 rowa2 csa2 ma2 ca2 ga2 => ⟨_, rfl, ?_⟩)
        refine OS.read rfl (e_loadm ma2 ca2 rfl rfl (part_one rfl ga2)) rfl ?_
        refine yG ?_
        exact ⟨_, k', by rw [hevc, hany]; rfl, hk', hr', hg3.to htxc⟩
theorem refTerms_ct (N : Nat) : ∀ M, M ≤ N → Dt 29 .t M := by
  induction N with
  | zero =>
    intro M hM
    exact refTerm_ct (fun M' h => by omega) (fun M' h => by omega)
  | succ N ih =>
    intro M hM
    exact refTerm_ct (fun M' h => ih M' (by omega)) (fun M' h => refRow_ct (ih M' (by omega)))
theorem refValue_ct {s : Value} {ws : List W} {F : RL} (hs : SV 1 F s ws.length (strs ws)) (hf : Fit ws) : CS Try.prog 15 [s] F fun v L' => match parse ws with
    | .err e => v = .tuple #[.bool false, .slice none 0 0, .int .i64 (e : Nat)] ∧ (e = 4 ∨ e = 65) ∧ L' = F
    | .ok x _ => ∃ l, v = .tuple #[.bool (ev .c x), l, .int .i64 0] ∧ GT F l (tx .c x) L' := by
  have hr := refRow_ct (refTerms_ct ws.length ws.length (Nat.le_refl _)) 0 0 (fuel .c ws) s ws F hs hf (by omega) (by omega) (by omega) (Nat.le_refl _)
  rw [List.drop_zero] at hr
  suffices hh : CS Try.prog 15 [s] F fun v L' => match parse ws with
    | .err e => v = .tuple #[.bool false, .slice none 0 0, .int .i64 (e : Nat)] ∧ (e = 4 ∨ e = 65) ∧ Sub F L'
    | .ok x _ => ∃ l, v = .tuple #[.bool (ev .c x), l, .int .i64 0] ∧ GT F l (tx .c x) L' by
    refine hh.less fun v L' h => ?_
    generalize parse ws = res at h ⊢
    cases res with
    | err e => obtain ⟨h1, h2, h3⟩ := h; exact ⟨F, h3, h1, h2, rfl⟩
    | ok x r => exact ⟨L', Sub.refl, h⟩
  unfold parse
  generalize pr (fuel .c ws) .c 0 ws = res at hr ⊢
  refine CS.mk (fn := Try.f15) rfl rfl rfl rfl ?_
  refine yG ?_
  refine OS.call noGo rfl (fun _ => rfl) ((hr).mono ?_)
  cases res with
  | err e =>
    rintro v L' ⟨k', rfl, he, hL⟩
    rw [hL]
    clear hL
    rcases he with rfl | rfl
    · refine yG ?_
      exact ⟨rfl, .inl rfl, Sub.refl⟩
    · refine yG ?_
      exact ⟨rfl, .inr rfl, Sub.refl⟩
  | ok x r =>
    rintro v L' ⟨l, k', rfl, hk', hr', hg⟩
    have hsL := hs.mono hg.mem
    cases r with
    | nil =>
      have hn := dnil hr'.symm
      have hb : (!ileB ((ws.length : Nat) : Int) ((k' : Nat) : Int)) = false := by rw [ileB_eq]; simp; omega
      refine yG ?_
      exact hg
    | cons y r =>
      obtain ⟨_, _, hk3⟩ := dget hr'.symm
      have hb : (!ileB ((ws.length : Nat) : Int) ((k' : Nat) : Int)) = true := by rw [ileB_eq]; simp; omega
      refine yG ?_
      exact ⟨rfl, .inl rfl, gv_drop hg⟩
theorem take_same {A : Type} [DecidableEq A] {x y : List A} {k : Nat} {a b : A} (ha : x[k]? = some a) (hb : y[k]? = some b) (h : x.take k = y.take k) : (x.take (k + 1) = y.take (k + 1)) ↔ a = b := by
  rw [List.take_add_one, List.take_add_one, ha, hb, h]
  simp
/-- Are these the same texts? -/
theorem refTexts_ct {L : RL} {v w : Value} {A B : List W} (hv : SV 1 L v A.length (strs A)) (hw : SV 1 L w B.length (strs B)) (hA : A.length ≤ 1000000) : CS Try.prog 17 [v, w] L fun u L' => u = .bool (decide (A = B)) ∧ L' = L := by
  refine CS.mk (fn := Try.f17) rfl rfl rfl rfl ?_
  by_cases hl : A.length = B.length
  rotate_left
  · have hb : (!ieqB ((A.length : Nat) : Int) ((B.length : Nat) : Int)) = true := by rw [ieqB_eq]; simp; omega
    refine yG ?_
    refine ⟨?_, rfl⟩
    rw [decide_eq_false (fun h => hl (by rw [h]))]; rfl
  have hb : (!ieqB ((A.length : Nat) : Int) ((B.length : Nat) : Int)) = false := by rw [ieqB_eq]; simp; omega
  refine yG ?_
  refine LS.loopJ [0, 1, 5] (fun q a L' => ∃ k : Nat, q = A.length - k ∧ k ≤ A.length ∧ A.take k = B.take k ∧ L' = L ∧ a = [v, w, .chan none, .chan none, .chan none, .int .i64 (k : Nat), .chan none, .chan none, .chan none, .chan none, .chan none, .chan none, .chan none, .chan none, .chan none, .chan none, .chan none, .chan none, .chan none, .chan none, .chan none, .chan none, .chan none, .chan none, .chan none, .chan none]) (n := A.length) rfl ⟨0, rfl, by omega, rfl, rfl, rfl⟩ ?_
  rintro q a L' ⟨k, rfl, hk, htk, hL, rfl⟩
  rw [hL]
  clear hL
  refine yG ?_
  repeat refine LS.seq ?_
  refine LS.cond rfl (fun hc => ?_) (fun hc => ?_)
  · have hc := lt_of hc
    obtain ⟨x, gx⟩ := ext_list (l := A) (k := k) (by omega)
    obtain ⟨y, gy⟩ := ext_list (l := B) (k := k) (by omega)
    refine LS.skip ?_
    repeat refine LS.seq ?_
    refine LS.block ?_
    refine yG ?_
    repeat refine LS.seq ?_
    refine LS.drawn noGo mixed [(0, false), (1, false), (2, false), (3, false), (4, false), (5, false), (6, false), (7, false), (8, false)] rfl rfl (by kernel_rfl) ?_
    refine yG ?_
    refine ODS.at1 (j := k) (hv) (strs_at gx) rfl rfl rfl rfl rfl rfl rfl (fun ra0 oa0 rowa0 csa0 ma0 ca0 ga0 => ⟨_, rfl, ?_⟩)
    refine ODS.read rfl rfl (e_loadm ma0 ca0 rfl rfl (part_one rfl ga0)) rfl ?_
    refine yG ?_
    refine ODS.at1 (j := k) (hw) (strs_at gy) rfl rfl rfl rfl rfl rfl rfl (fun ra2 oa2 rowa2 csa2 ma2 ca2 ga2 => ⟨_, rfl, ?_⟩)
    refine ODS.read rfl rfl (e_loadm ma2 ca2 rfl rfl (part_one rfl ga2)) rfl ?_
    by_cases hxy : x = y
    · have b1 : (!bytesEq x y) = false := by rw [beq_bytes]; simpa using hxy
      refine yG ?_
      exact ⟨A.length - (k + 1), by omega, k + 1, rfl, by omega, (take_same gx gy htk).2 hxy, rfl, rfl⟩
    · have b1 : (!bytesEq x y) = true := by rw [beq_bytes]; simpa using hxy
      refine yG ?_
      refine ⟨?_, rfl⟩
      rw [decide_eq_false (fun h => hxy (by subst h; rw [gx] at gy; exact Option.some.inj gy))]; rfl
  · have hc := nlt_of hc
    obtain rfl : k = A.length := by omega
    refine LS.exit ?_
    refine yG ?_
    refine ⟨?_, rfl⟩
    rw [List.take_length, hl, List.take_length] at htk
    rw [decide_eq_true htk]; rfl
end Go.Proofs.Ytdacddkelagdnaa
