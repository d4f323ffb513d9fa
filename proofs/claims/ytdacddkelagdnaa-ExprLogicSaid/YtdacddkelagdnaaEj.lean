/- Layer 11: the document's condition, told from the words at once. -/
import Derived.Test.YtdacddkelagdnaaEi
import Derived.Test.YtdacddkelagdnaaGf
namespace Go.Proofs.Ytdacddkelagdnaa
open Go.Am
set_option linter.unusedVariables false
set_option maxRecDepth 20000
set_option maxHeartbeats 4000000
attribute [local irreducible] OS LSr ODS CS

theorem dget {A : Type} {l r : List A} {i : Nat} {a : A} (h : l.drop i = a :: r) : l[i]? = some a ∧ l.drop (i + 1) = r ∧ i < l.length := by
  refine ⟨?_, ?_, ?_⟩
  · have : (l.drop i)[0]? = some a := by rw [h]; rfl
    rw [List.getElem?_drop] at this
    simpa using this
  · rw [← List.drop_drop, h]; rfl
  · by_cases hi : i < l.length
    · exact hi
    · rw [List.drop_eq_nil_of_le (by omega)] at h; cases h
theorem dnil {A : Type} {l : List A} {i : Nat} (h : l.drop i = []) : l.length ≤ i := by
  by_cases hi : i < l.length
  · have := congrArg List.length h
    rw [List.length_drop] at this
    simp at this; omega
  · omega
theorem opN_same {o : W} (h : o = wSame) : opN o = 1 := by subst h; rfl
theorem compares_ct {L : RL} {s : Value} {ws : List W} {i : Nat} (hs : SV 1 L s ws.length (strs ws)) (hf : ws.length ≤ 100000) (hi : i ≤ ws.length) : CS Try.prog 32 [s, .int .i64 (i : Nat)] L fun v L' => v = .bool (cmpAt (ws.drop i)).isSome ∧ L' = L := by
  by_cases h2 : i + 2 < ws.length
  · have hb : (!ileB ((ws.length : Nat) : Int) ((i + 2 : Nat) : Int)) = true := by rw [ileB_eq]; simp; omega
    match hd : ws.drop i, (by rw [List.length_drop]; omega : 3 ≤ (ws.drop i).length) with
    | a :: o :: b :: r, _ =>
    obtain ⟨g0, hd1, _⟩ := dget hd
    obtain ⟨g1, hd2, _⟩ := dget hd1
    by_cases h3 : o = wSame
    · have b1 : bytesEq o [61, 61] = true := by rw [beq_bytes]; exact decide_eq_true h3
      have hc : (cmpAt (a :: o :: b :: r)).isSome = true := by rw [cmpAt_of (by subst h3; decide)]; rfl
      rw [hc]
      refine CS.mk (fn := Try.f32) rfl rfl rfl rfl ?_
      refine yG ?_
      refine OS.pure rfl (y_addN (n := 2) rfl rfl rfl (in_i64 (by omega) (by omega))) rfl ?_
      refine yG ?_
      refine OS.at1 (j := (i + 1)) (hs) (strs_at g1) rfl rfl rfl rfl rfl rfl (fun ra0 oa0 rowa0 csa0 ma0 ca0 ga0 => ⟨_, rfl, ?_⟩)
      refine OS.read rfl (e_loadm ma0 ca0 rfl rfl (part_one rfl ga0)) rfl ?_
      refine yG ?_
      exact ⟨rfl, rfl⟩
    have b1 : bytesEq o [61, 61] = false := by rw [beq_bytes]; exact decide_eq_false h3
    by_cases h4 : o = wOther
    · have b2 : bytesEq o [33, 61] = true := by rw [beq_bytes]; exact decide_eq_true h4
      have hc : (cmpAt (a :: o :: b :: r)).isSome = true := by rw [cmpAt_of (by subst h4; decide)]; rfl
      rw [hc]
      refine CS.mk (fn := Try.f32) rfl rfl rfl rfl ?_
      refine yG ?_
      refine OS.pure rfl (y_addN (n := 2) rfl rfl rfl (in_i64 (by omega) (by omega))) rfl ?_
      refine yG ?_
      refine OS.at1 (j := (i + 1)) (hs) (strs_at g1) rfl rfl rfl rfl rfl rfl (fun ra0 oa0 rowa0 csa0 ma0 ca0 ga0 => ⟨_, rfl, ?_⟩)
      refine OS.read rfl (e_loadm ma0 ca0 rfl rfl (part_one rfl ga0)) rfl ?_
      refine yG ?_
      refine OS.at1 (j := (i + 1)) (hs) (strs_at g1) rfl rfl rfl rfl rfl rfl (fun ra2 oa2 rowa2 csa2 ma2 ca2 ga2 => ⟨_, rfl, ?_⟩)
      refine OS.read rfl (e_loadm ma2 ca2 rfl rfl (part_one rfl ga2)) rfl ?_
      refine yG ?_
      exact ⟨rfl, rfl⟩
    have b2 : bytesEq o [33, 61] = false := by rw [beq_bytes]; exact decide_eq_false h4
    have hc : (cmpAt (a :: o :: b :: r)).isSome = decide (o = wLike) := by
      by_cases h5 : o = wLike
      · rw [cmpAt_of (by subst h5; decide), decide_eq_true h5]; rfl
      · show (if opN o = 0 then none else some (a, opN o, b, r)).isSome = _
        rw [if_pos (by unfold opN; rw [if_neg h3, if_neg h4, if_neg h5]), decide_eq_false h5]; rfl
    have b3 : bytesEq o [126] = decide (o = wLike) := beq_bytes o wLike
    rw [hc]
    refine CS.mk (fn := Try.f32) rfl rfl rfl rfl ?_
    refine yG ?_
    refine OS.pure rfl (y_addN (n := 2) rfl rfl rfl (in_i64 (by omega) (by omega))) rfl ?_
    refine yG ?_
    refine OS.at1 (j := (i + 1)) (hs) (strs_at g1) rfl rfl rfl rfl rfl rfl (fun ra0 oa0 rowa0 csa0 ma0 ca0 ga0 => ⟨_, rfl, ?_⟩)
    refine OS.read rfl (e_loadm ma0 ca0 rfl rfl (part_one rfl ga0)) rfl ?_
    refine yG ?_
    refine OS.at1 (j := (i + 1)) (hs) (strs_at g1) rfl rfl rfl rfl rfl rfl (fun ra2 oa2 rowa2 csa2 ma2 ca2 ga2 => ⟨_, rfl, ?_⟩)
    refine OS.read rfl (e_loadm ma2 ca2 rfl rfl (part_one rfl ga2)) rfl ?_
    refine yG ?_
    refine OS.at1 (j := (i + 1)) (hs) (strs_at g1) rfl rfl rfl rfl rfl rfl (fun ra3 oa3 rowa3 csa3 ma3 ca3 ga3 => ⟨_, rfl, ?_⟩)
    refine OS.read rfl (e_loadm ma3 ca3 rfl rfl (part_one rfl ga3)) rfl ?_
    refine yG ?_
    exact ⟨rfl, rfl⟩
  · have hb : (!ileB ((ws.length : Nat) : Int) ((i + 2 : Nat) : Int)) = false := by rw [ileB_eq]; simp; omega
    have hc : (cmpAt (ws.drop i)).isSome = false := by
      have hl : (ws.drop i).length < 3 := by rw [List.length_drop]; omega
      match ws.drop i, hl with
      | [], _ => rfl
      | [_], _ => rfl
      | [_, _], _ => rfl
    rw [hc]
    refine CS.mk (fn := Try.f32) rfl rfl rfl rfl ?_
    refine yG ?_
    refine OS.pure rfl (y_addN (n := 2) rfl rfl rfl (in_i64 (by omega) (by omega))) rfl ?_
    refine yG ?_
    exact ⟨rfl, rfl⟩
/-- What the document's Term and Row come to. -/
def DPost (m : Md) (F : RL) (ws : List W) : Rs → Value → RL → Prop
  | .err e, v, L' => ∃ k : Nat, v = .tuple #[.bool false, .slice none 0 0, .int .i64 (k : Nat), .int .i64 (e : Nat)] ∧ (e = 4 ∨ e = 65) ∧ L' = F
  | .ok x r, v, L' => ∃ l, ∃ k : Nat, v = .tuple #[.bool (ev m x), l, .int .i64 (k : Nat), .int .i64 0] ∧ k ≤ ws.length ∧ r = ws.drop k ∧ GT F l (tx m x) L'
def Dt (f : FuncId) (m : Md) (N : Nat) : Prop := ∀ (d i k : Nat) (s : Value) (ws : List W) (F : RL), SV 1 F s ws.length (strs ws) → Fit ws → i ≤ ws.length → ws.length - i ≤ N → d ≤ 64 → fuel m (ws.drop i) ≤ k → CS Try.prog f [s, .int .i64 (i : Nat), .int .i64 (d : Nat)] F (DPost m F ws (pr k m d (ws.drop i)))
theorem refTerm_cmp {d i : Nat} {s : Value} {ws : List W} {F : RL} {a b : W} {o : Nat} {r : List W} (hs : SV 1 F s ws.length (strs ws)) (hf : Fit ws) (hi : i ≤ ws.length) (hc : cmpAt (ws.drop i) = some (a, o, b, r)) :
    CS Try.prog 29 [s, .int .i64 (i : Nat), .int .i64 (d : Nat)] F (DPost .t F ws (.ok (.cmp a o b) r)) := by
  have hf1 := hf.1
  obtain ⟨u, hd, hu, ho⟩ := cmpAt_some hc
  obtain ⟨g0, hd1, _⟩ := dget hd
  obtain ⟨g1, hd2, _⟩ := dget hd1
  obtain ⟨g2, hd3, hi3⟩ := dget hd2
  have ha : a.length ≤ 1000000 := hf.2 a (List.mem_of_getElem? g0)
  have hcs := compares_ct (L := F) hs hf1 hi
  rw [hc] at hcs
  have fin : ∀ rb, GT F (.slice (some ⟨rb, 0, none⟩) 2 openCap) (tx .t (.cmp a o b)) ((rb, .cells 9 [str a, str b]) :: F) := fun rb => GV.of rfl
  have b0 : bytesEq a b = decide (a = b) := beq_bytes a b
  have b0' : (!bytesEq a b) = !decide (a = b) := by rw [b0]
  refine CS.mk (fn := Try.f29) rfl rfl rfl rfl ?_
  refine yG ?_
  refine OS.call noGo rfl (fun _ => rfl) ((hcs).mono ?_)
  rintro v L' ⟨rfl, rfl⟩
  refine yG ?_
  refine OS.at1 (j := i) (hs) (strs_at g0) rfl rfl rfl rfl rfl rfl (fun ra0 oa0 rowa0 csa0 ma0 ca0 ga0 => ⟨_, rfl, ?_⟩)
  refine OS.read rfl (e_loadm ma0 ca0 rfl rfl (part_one rfl ga0)) rfl ?_
  refine yG ?_
  refine OS.pure rfl (y_addN (n := 2) rfl rfl rfl (in_i64 (by omega) (by omega))) rfl ?_
  refine yG ?_
  refine OS.at1 (j := (i + 2)) (hs) (strs_at g2) rfl rfl rfl rfl rfl rfl (fun ra2 oa2 rowa2 csa2 ma2 ca2 ga2 => ⟨_, rfl, ?_⟩)
  refine OS.read rfl (e_loadm ma2 ca2 rfl rfl (part_one rfl ga2)) rfl ?_
  refine yG ?_
  refine OS.at1 (j := (i + 1)) (hs) (strs_at g1) rfl rfl rfl rfl rfl rfl (fun ra3 oa3 rowa3 csa3 ma3 ca3 ga3 => ⟨_, rfl, ?_⟩)
  refine OS.read rfl (e_loadm ma3 ca3 rfl rfl (part_one rfl ga3)) rfl ?_
  by_cases h3 : u = wSame
  · subst h3
    have : o = 1 := hu.symm
    subst this
    refine yG ?_
    refine OS.at1 (j := (i + 1)) (hs) (strs_at g1) rfl rfl rfl rfl rfl rfl (fun ra4 oa4 rowa4 csa4 ma4 ca4 ga4 => ⟨_, rfl, ?_⟩)
    refine OS.read rfl (e_loadm ma4 ca4 rfl rfl (part_one rfl ga4)) rfl ?_
    refine yG ?_
    refine OS.fresh rfl (e_new (fun _ => rfl) rfl) (fun _ => rfl) (fun rb => ?_)
    refine OS.opened 57 0 (sz := 1) rfl rfl rfl (by simp) (by decide) rfl ?_
    refine yG ?_
    refine OS.pure rfl (y_addN (n := 3) rfl rfl rfl (in_i64 (by omega) (by omega))) rfl ?_
    refine yG ?_
    exact ⟨_, i + 3, rfl, by omega, hd3.symm, fin rb⟩
  by_cases h4 : u = wOther
  · subst h4
    have : o = 2 := hu.symm
    subst this
    refine yG ?_
    refine OS.at1 (j := (i + 1)) (hs) (strs_at g1) rfl rfl rfl rfl rfl rfl (fun ra4 oa4 rowa4 csa4 ma4 ca4 ga4 => ⟨_, rfl, ?_⟩)
    refine OS.read rfl (e_loadm ma4 ca4 rfl rfl (part_one rfl ga4)) rfl ?_
    refine yG ?_
    refine OS.fresh rfl (e_new (fun _ => rfl) rfl) (fun _ => rfl) (fun rb => ?_)
    refine OS.opened 57 0 (sz := 1) rfl rfl rfl (by simp) (by decide) rfl ?_
    refine yG ?_
    refine OS.pure rfl (y_addN (n := 3) rfl rfl rfl (in_i64 (by omega) (by omega))) rfl ?_
    refine yG ?_
    exact ⟨_, i + 3, rfl, by omega, hd3.symm, fin rb⟩
  have h5 : u = wLike := by
    by_cases h5 : u = wLike
    · exact h5
    · exfalso; apply ho; rw [← hu]; unfold opN; rw [if_neg h3, if_neg h4, if_neg h5]
  subst h5
  have : o = 3 := hu.symm
  subst this
  refine yG ?_
  refine OS.at1 (j := (i + 1)) (hs) (strs_at g1) rfl rfl rfl rfl rfl rfl (fun ra4 oa4 rowa4 csa4 ma4 ca4 ga4 => ⟨_, rfl, ?_⟩)
  refine OS.read rfl (e_loadm ma4 ca4 rfl rfl (part_one rfl ga4)) rfl ?_
  refine yG ?_
  refine OS.call noGo rfl (fun _ => rfl) ((refMatch_ct b a ha).mono ?_)
  rintro v L' ⟨rfl, hL⟩
  rw [hL]
  clear hL
  refine yG ?_
  refine OS.fresh rfl (e_new (fun _ => rfl) rfl) (fun _ => rfl) (fun rb => ?_)
  refine OS.opened 57 0 (sz := 1) rfl rfl rfl (by simp) (by decide) rfl ?_
  refine yG ?_
  refine OS.pure rfl (y_addN (n := 3) rfl rfl rfl (in_i64 (by omega) (by omega))) rfl ?_
  refine yG ?_
  exact ⟨_, i + 3, rfl, by omega, hd3.symm, fin rb⟩
end Go.Proofs.Ytdacddkelagdnaa
