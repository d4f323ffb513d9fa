/- Layer 15: cutOff, places, reach, Below, Above. -/
import Derived.Test.YteakbbnlkjckhaaGrH
namespace Go.Proofs.Yteakbbnlkjckhaa
open Go.Am Go.Gp
set_option linter.unusedVariables false
set_option linter.unusedSimpArgs false
set_option maxRecDepth 20000
set_option maxHeartbeats 4000000
attribute [local irreducible] OS LSr ODS CS
theorem cutOff_ct {L : RL} {r c : Nat} {l : List Nat} {J : List Value} (i : Nat) (hL : L[i]? = some (r, .cells tI (ns l ++ J))) (hc : c = openCap ∨ (l.length ≤ c ∧ c < openCap)) (hn : l.length ≤ 1000000) :
    CS Try.prog 32 [.slice (some ⟨r, 0, none⟩) l.length c] L fun u L' => L' = L ∧ ∃ c2, u = .tuple #[.slice (some ⟨r, 0, none⟩) (l.length / 2) (l.length / 2), .slice (some ⟨r, l.length / 2, none⟩) (l.length - l.length / 2) c2] := by
  have hv : SV 1 L (.slice (some ⟨r, 0, none⟩) l.length c) l.length (ns l) := .inr ⟨r, 0, c, _, ns l ++ J, rfl, List.mem_of_getElem? hL, rfl, by rw [cut_of (by simp [ns_len])]; simp [ns_len]⟩
  refine CS.mk (fn := Try.f32) rfl rfl rfl rfl ?_
  refine yG ?_
  refine OS.pure rfl (e_quo (n := 2) rfl rfl rfl (by omega) (in_i64 (by omega) (by omega))) rfl ?_
  refine OS.pure rfl (fun _ => rfl) rfl ?_
  refine OS.nil ?_
  rcases hc with rfl | ⟨hc1, hc2⟩
  · repeat refine LS.seq ?_
    refine LS.drawn noGo mixed [(0, false), (1, false), (2, false), (3, false), (4, false), (5, false), (6, false), (7, false), (8, false)] rfl rfl (by kernel_rfl) ?_
    refine yG ?_
    refine ODS.pure rfl rfl (e_slice3L rfl rfl rfl rfl Try.underlying23 rfl (.inl rfl) (Nat.div_le_self _ _) (by omega)) rfl ?_
    refine yG ?_
    refine ODS.read rfl rfl (e_sliceO1 (l := l.length / 2) i rfl rfl rfl Try.underlying23 rfl (Nat.div_le_self _ _) hL) rfl ?_
    refine yG ?_
    refine ⟨rfl, openCap, ?_⟩
    rw [Nat.zero_add]; rfl
  · repeat refine LS.seq ?_
    refine LS.drawn noGo mixed [(0, false), (1, false), (2, false), (3, false), (4, false), (5, false), (6, false), (7, false), (8, false)] rfl rfl (by kernel_rfl) ?_
    refine yG ?_
    refine ODS.pure rfl rfl (e_slice3L rfl rfl rfl rfl Try.underlying23 rfl (.inr hc1) (Nat.div_le_self _ _) (by omega)) rfl ?_
    refine yG ?_
    refine ODS.pure rfl rfl (e_sliceC1 (l := l.length / 2) rfl rfl rfl Try.underlying23 rfl hc1 (Nat.div_le_self _ _) hc2) rfl ?_
    refine yG ?_
    refine ⟨rfl, c - l.length / 2, ?_⟩
    rw [Nat.zero_add]; rfl
def bs (b : Nat → Bool) (n : Nat) : List Value := (List.range n).map fun k => .bool (b k)
theorem bs_len (b : Nat → Bool) (n : Nat) : (bs b n).length = n := by simp [bs]
theorem bs_at {b : Nat → Bool} {n k : Nat} (h : k < n) : (bs b n)[k]? = some (.bool (b k)) := by simp [bs, h]
theorem bs_upb {b : Nat → Bool} {n k : Nat} (h : k < n) : (bs b n).set k (.bool true) = bs (upb b k) n := by
  apply List.ext_getElem?
  intro j
  rw [List.getElem?_set]
  by_cases hj : k = j
  · subst hj; rw [if_pos rfl, if_pos (by rw [bs_len]; exact h), bs_at h, upb_self]
  · rw [if_neg hj]
    by_cases hn : j < n
    · rw [bs_at hn, bs_at hn]
      have : (j == k) = false := by simp; omega
      simp [upb, this]
    · rw [List.getElem?_eq_none (by rw [bs_len]; omega), List.getElem?_eq_none (by rw [bs_len]; omega)]
theorem places_ct {L : RL} {v : Value} {n : Nat} {b : Nat → Bool} (hv : SV 1 L v n (bs b n)) (hn : n ≤ 1000000) :
    CS Try.prog 33 [v] L fun u L' => GV tI 1 L u (picks b n).length (ns (picks b n)) L' := by
  refine CS.mk (fn := Try.f33) rfl rfl rfl rfl ?_
  refine yG ?_
  refine LS.loopJ [3, 6, 7, 8] (fun q a L' => ∃ (i : Nat) (rv : Value), q = n - i ∧ i ≤ n ∧ GV tI 1 L rv (picks b i).length (ns (picks b i)) L' ∧ a = [.chan none, .chan none, .chan none, rv, .chan none, .chan none, v, iN n, iN i, .chan none, .chan none, .chan none, .chan none, .chan none, .chan none, .chan none, .chan none, .chan none, .chan none, .chan none]) (n := n) rfl ⟨0, _, rfl, by omega, .nil, rfl⟩ ?_
  rintro q a L' ⟨i, rv, rfl, hi, hg, rfl⟩
  have hv' := hv.mono hg.mem
  by_cases hin : i < n
  · have hbi : (!ileB ((n : Nat) : Int) (i : Nat)) = true := by rw [ileB_eq]; simp; omega
    have hpl := picks_len b i
    have hps := picks_succ b i
    refine yG ?_
    refine OS.at1 (j := i) (hv') (bs_at hin) rfl rfl rfl rfl rfl rfl (fun ra0 oa0 rowa0 csa0 ma0 ca0 ga0 => ⟨_, rfl, ?_⟩)
    refine OS.read rfl (e_loadm ma0 ca0 rfl rfl (part_one rfl ga0)) rfl ?_
    rcases tf (b i) with hb | hb
    · rw [hb]
      rw [hb, if_pos rfl] at hps
      refine yG ?_
      refine OS.fresh rfl (e_new (fun _ => rfl) rfl) (fun _ => rfl) (fun rb => ?_)
      refine OS.fresh rfl (e_appendGV [_] (m := 1) (sz := 1) (bts := 8) hg (SV.row (sz := 1) (n := 1) (List.mem_cons_self ..) rfl) (by omega) rfl rfl rfl rfl (by omega) (by omega)) (fun _ => rfl) (fun r2 => ?_)
      refine OS.sub (Sub.drop 1 rfl) ?_
      refine yG ?_
      refine ⟨n - (i + 1), by omega, i + 1, _, rfl, by omega, ?_, rfl⟩
      rw [hps, ns_snoc, List.length_append]
      exact GV.of (by simp [ns_len])
    · rw [hb]
      rw [hb, if_neg (by simp), List.append_nil] at hps
      refine yG ?_
      exact ⟨n - (i + 1), by omega, i + 1, rv, rfl, by omega, by rw [hps]; exact hg, rfl⟩
  · have hbi : (!ileB ((n : Nat) : Int) (i : Nat)) = false := by rw [ileB_eq]; simp; omega
    obtain rfl : i = n := by omega
    refine yG ?_
    refine LS.exit ?_
    refine yG ?_
    exact hg
abbrev tB : TypeId := 4
/-- What is to be looked at: the beginning of a row that stays, or a row of its own. -/
def LF (r : Nat) (l : List Nat) (lv : Value) (lf : List Nat) (X : RL) : Prop :=
  (lv = .slice (some ⟨r, 0, none⟩) lf.length lf.length ∧ X = [] ∧ lf = l.take (l.length / 2)) ∨ ∃ r2, lv = .slice (some ⟨r2, 0, none⟩) lf.length openCap ∧ X = [(r2, .cells tI (ns lf))]
theorem reach_ct {L : RL} {v : Value} {M : Nd} {f : Nat} (hv : NL L v (nv M)) (hM : Ok M) (hn : M.length ≤ 4096) (ht : ∀ i, i < M.length → (nd M i).length ≤ 65536) (hf : f < M.length) :
    CS Try.prog 26 [v, iN f] L fun u L' => ∃ Y, L' = Y ++ L ∧ GV tI 1 [] u (below M f).length (ns (below M f)) Y := by
  suffices h : CS Try.prog 26 [v, iN f] L fun u L' => ∃ L₁, Sub L₁ L' ∧ ∃ Y, L₁ = Y ++ L ∧ GV tI 1 [] u (below M f).length (ns (below M f)) Y from h.less fun v L' h => h
  obtain ⟨ics, hs, hg⟩ := hv.ofN
  refine CS.mk (fn := Try.f26) rfl rfl rfl rfl ?_
  refine yG ?_
  refine OS.fresh rfl (e_make (l := M.length) (c := M.length) rfl rfl rfl makeT_bools (Nat.le_refl _) (by omega) (by omega)) (fun _ => rfl) (fun rq => ?_)
  refine yG ?_
  refine OS.fresh rfl (e_new (fun _ => rfl) rfl) (fun _ => rfl) (fun r => ?_)
  refine OS.sub (Sub.pulls [1] rfl) ?_
  refine yG ?_
  refine LS.loopJ [0, 5, 6] (fun q a L' => ∃ (b : Nat → Bool) (l : List Nat) (r c : Nat) (J : List Value), q = unr b M.length + l.length ∧ unr b M.length + l.length ≤ M.length + 1 ∧ RI M f b l [] ∧ (c = openCap ∨ (l.length ≤ c ∧ c < openCap)) ∧ L' = (rq, .cells tB (bs b M.length)) :: (r, .cells tI (ns l ++ J)) :: L ∧ a = [v, .chan none, .chan none, .chan none, .chan none, .slice (some ⟨rq, 0, none⟩) M.length M.length, .slice (some ⟨r, 0, none⟩) l.length c, .chan none, .chan none, .chan none, .chan none, .chan none, .chan none, .chan none, .chan none, .chan none, .chan none, .chan none, .chan none, .chan none, .chan none, .chan none, .chan none, .chan none, .chan none, .chan none, .chan none, .chan none, .chan none, .chan none, .chan none, .chan none, .chan none, .chan none, .chan none, .chan none, .chan none, .chan none, .chan none, .chan none, .chan none, .chan none, .chan none, .chan none, .chan none, .chan none, .chan none, .chan none, .chan none, .chan none, .chan none, .chan none, .chan none, .chan none, .chan none, .chan none]) (n := unr (fun _ => false) M.length + 1) rfl
    ⟨fun _ => false, [f], r, 1, [], rfl, by have := unr_le (fun _ => false) M.length; simp; omega, .start M f, .inr ⟨by simp, by decide⟩, by
      have e : repL [.bool false] M.length = bs (fun _ => false) M.length := by
        simp only [repL, bs]
        apply List.ext_getElem?
        intro j
        by_cases hj : j < M.length
        · simp [hj]
        · simp [hj]
      rw [e]; rfl, rfl⟩ ?_
  rintro q a L' ⟨b0, l, r, c, J, rfl, hq, hri, hc, rfl, rfl⟩
  have hmem : ∀ (x y : Nat × ARow) (X : RL) (p : Nat × ARow), p ∈ L → p ∈ x :: y :: (X ++ L) := fun x y X p hp => List.mem_cons_of_mem _ (List.mem_cons_of_mem _ (List.mem_append_right _ hp))
  have hcut : ∀ m : Nat, m ≤ l.length → cut (ns l ++ J) m ((l.length - m) * 1) = some (ns (l.drop m)) := fun m hm => by
    rw [cut_of (by simp [ns_len]; omega), Nat.mul_one, List.drop_append_of_le_length (by rw [ns_len]; omega), List.take_append_of_le_length (by simp [ns_len]), List.take_of_length_le (by simp [ns_len]), ns_drop]
  have hcut0 : ∀ m : Nat, m ≤ l.length → cut (ns l ++ J) 0 (m * 1) = some (ns (l.take m)) := fun m hm => by
    rw [cut_of (by simp [ns_len]; omega), Nat.mul_one, List.drop_zero, List.take_append_of_le_length (by simp [ns_len]; omega), ns_take]
  have hsl : SV 1 ((rq, .cells tB (bs b0 M.length)) :: (r, .cells tI (ns l ++ J)) :: L) (.slice (some ⟨r, 0, none⟩) l.length c) l.length (ns l) := .inr ⟨r, 0, c, _, ns l ++ J, rfl, List.mem_cons_of_mem _ (List.mem_cons_self ..), rfl, by rw [hcut0 _ (Nat.le_refl _), List.take_of_length_le (Nat.le_refl _)]⟩
  rcases Nat.eq_zero_or_pos l.length with hl0 | hl0
  · obtain rfl : l = [] := List.eq_nil_of_length_eq_zero hl0
    have hb : (!ileB ((([] : List Nat).length : Nat) : Int) 0) = false := rfl
    have hbl : SV 1 ((rq, .cells tB (bs b0 M.length)) :: (r, .cells tI (ns [] ++ J)) :: L) (.slice (some ⟨rq, 0, none⟩) M.length M.length) M.length (bs b0 M.length) := SV.row (List.mem_cons_self ..) (by rw [bs_len]; simp)
    refine yG ?_
    refine LS.exit ?_
    refine yG ?_
    refine OS.call noGo rfl (fun _ => rfl) ((places_ct hbl (by omega)).mono ?_)
    rintro u L' hgv
    rw [picks_below (fun k _ => hri.end k)] at hgv
    have hf' : ∃ A c, u = .slice A (below M f).length c := hgv.sv.form
    obtain ⟨A, c', rfl⟩ := hf'
    refine yG ?_
    rcases hgv with ⟨e1, e2, e3, rfl⟩ | ⟨r', e1, e2, rfl⟩
    · exact ⟨L, Sub.drops 2 rfl, [], rfl, .inl ⟨e1, e2, e3, rfl⟩⟩
    · exact ⟨(r', .cells tI (ns (below M f))) :: L, Sub.sums2 [(rq, .cells tB (bs b0 M.length)), (r, .cells tI (ns [] ++ J))] fun f => by simp; omega, [(r', .cells tI (ns (below M f)))], rfl, .inr ⟨r', e1, e2, rfl⟩⟩
  · have hb : (!ileB ((l.length : Nat) : Int) 0) = true := by rw [ileB_eq, decide_eq_false (by omega)]; rfl
    refine yG ?_
    refine OS.call noGo rfl (fun _ => rfl) ((cutOff_ct 1 rfl hc (by omega)).mono ?_)
    rintro u L2 ⟨hL, c2, rfl⟩
    rw [hL]
    clear hL
    generalize hm : l.length / 2 = m
    have hml : m < l.length := by omega
    have hsn : ∀ (b : Nat → Bool) (X : RL), SV 1 ((rq, .cells tB (bs b M.length)) :: (r, .cells tI (ns l ++ J)) :: (X ++ L)) (.slice (some ⟨r, m, none⟩) (l.length - m) c2) (l.length - m) (ns (l.drop m)) := fun b X => .inr ⟨r, m, c2, _, ns l ++ J, rfl, List.mem_cons_of_mem _ (List.mem_cons_self ..), rfl, hcut m (by omega)⟩
    have hsn0 := hsn b0 []
    rw [List.nil_append] at hsn0
    refine yG ?_
    refine LS.loopJ [0, 5, 6, 25, 26, 27] (fun q a L' => ∃ (p : Nat) (b : Nat → Bool) (lf : List Nat) (lv : Value) (X : RL), q = l.length - m - p ∧ p ≤ l.length - m ∧ unr b M.length + lf.length = unr b0 M.length + m ∧ RI M f b lf ((l.drop m).drop p) ∧ LF r l lv lf X ∧ L' = (rq, .cells tB (bs b M.length)) :: (r, .cells tI (ns l ++ J)) :: (X ++ L) ∧ a = [v, .chan none, .chan none, .chan none, .chan none, .slice (some ⟨rq, 0, none⟩) M.length M.length, lv, .chan none, .chan none, .chan none, .chan none, .chan none, .chan none, .chan none, .chan none, .chan none, .chan none, .chan none, .chan none, .chan none, .chan none, .chan none, .chan none, .chan none, .chan none, .slice (some ⟨r, m, none⟩) (l.length - m) c2, iN (l.length - m), iN p, .chan none, .chan none, .chan none, .chan none, .chan none, .chan none, .chan none, .chan none, .chan none, .chan none, .chan none, .chan none, .chan none, .chan none, .chan none, .chan none, .chan none, .chan none, .chan none, .chan none, .chan none, .chan none, .chan none, .chan none, .chan none, .chan none, .chan none, .chan none]) (n := l.length - m) rfl
      ⟨0, b0, l.take m, _, [], rfl, by omega, by simp; omega, hri.cut m, .inl ⟨by simp; congr 1 <;> omega, rfl, by rw [hm]⟩, rfl, by simp [Nat.min_eq_left (Nat.le_of_lt hml)]; rfl⟩ ?_
    clear hsn0 hsl hb
    rintro q a L' ⟨p, b, lf, lv, X, rfl, hp, hun, hri, hlf, rfl, rfl⟩
    have hsn1 := hsn b X
    by_cases hpl : p < l.length - m
    · have hbp : (!ileB ((l.length - m : Nat) : Int) (p : Nat)) = true := by rw [ileB_eq]; simp; omega
      obtain ⟨x, hx⟩ := ext_list (l := l.drop m) (k := p) (by simp; omega)
      have hdr : (l.drop m).drop p = x :: (l.drop m).drop (p + 1) := by
        rw [List.drop_eq_getElem_cons (by simp; omega)]; congr 1; exact (List.getElem?_eq_some_iff.1 hx).2
      have hxn : x < M.length := hri.lt hM hf (by rw [hdr]; exact List.mem_cons_self ..)
      obtain ⟨w, hw, hsw⟩ := hg x (nd M x) (at_nd hxn)
      have hwl := ht x hxn
      have hs1 := hs.mono (hmem (rq, .cells tB (bs b M.length)) (r, .cells tI (ns l ++ J)) X)
      have hsw0 := hsw.mono (hmem (rq, .cells tB (bs b M.length)) (r, .cells tI (ns l ++ J)) X)
      refine yG ?_
      refine OS.at1 (j := p) (hsn1) (ns_at hx) rfl rfl rfl rfl rfl rfl (fun ra0 oa0 rowa0 csa0 ma0 ca0 ga0 => ⟨_, rfl, ?_⟩)
      refine OS.read rfl (e_loadm ma0 ca0 rfl rfl (part_one rfl ga0)) rfl ?_
      refine yG ?_
      refine OS.at1 (j := x) (hs1) (hw) rfl rfl rfl rfl rfl rfl (fun ra1 oa1 rowa1 csa1 ma1 ca1 ga1 => ⟨_, rfl, ?_⟩)
      refine OS.read rfl (e_loadm ma1 ca1 rfl rfl (part_one rfl ga1)) rfl ?_
      refine yG ?_
      refine LS.loopJ [0, 5, 6, 25, 26, 27, 34, 35, 36] (fun q a L' => ∃ (j : Nat) (b : Nat → Bool) (lf : List Nat) (lv : Value) (X : RL), q = (nd M x).length - j ∧ j ≤ (nd M x).length ∧ (∀ k, k ∈ (nd M x).take j → b k = true) ∧ unr b M.length + lf.length = unr b0 M.length + m ∧ RI M f b lf ((l.drop m).drop p) ∧ LF r l lv lf X ∧ L' = (rq, .cells tB (bs b M.length)) :: (r, .cells tI (ns l ++ J)) :: (X ++ L) ∧ a = [v, .chan none, .chan none, .chan none, .chan none, .slice (some ⟨rq, 0, none⟩) M.length M.length, lv, .chan none, .chan none, .chan none, .chan none, .chan none, .chan none, .chan none, .chan none, .chan none, .chan none, .chan none, .chan none, .chan none, .chan none, .chan none, .chan none, .chan none, .chan none, .slice (some ⟨r, m, none⟩) (l.length - m) c2, iN (l.length - m), iN p, .chan none, .chan none, .chan none, .chan none, .chan none, .chan none, w, iN (nd M x).length, iN j, .chan none, .chan none, .chan none, .chan none, .chan none, .chan none, .chan none, .chan none, .chan none, .chan none, .chan none, .chan none, .chan none, .chan none, .chan none, .chan none, .chan none, .chan none, .chan none]) (n := (nd M x).length) rfl ⟨0, b, lf, lv, X, rfl, by omega, by simp, hun, hri, hlf, rfl, rfl⟩ ?_
      clear hsn1 hs1 hsw0 hun hri hlf
      rintro q a L' ⟨j, b, lf, lv, X, rfl, hj, hbj, hun, hri, hlf, rfl, rfl⟩
      have hsw1 := hsw.mono (hmem (rq, .cells tB (bs b M.length)) (r, .cells tI (ns l ++ J)) X)
      have hbl : SV 1 ((rq, ARow.cells tB (bs b M.length)) :: (r, ARow.cells tI (ns l ++ J)) :: (X ++ L)) (.slice (some ⟨rq, 0, none⟩) M.length M.length) M.length (bs b M.length) := SV.row (List.mem_cons_self ..) (by rw [bs_len]; simp)
      by_cases hjw : j < (nd M x).length
      · have hbj2 : (!ileB (((nd M x).length : Nat) : Int) (j : Nat)) = true := by rw [ileB_eq]; simp; omega
        obtain ⟨k, hk⟩ := ext_list hjw
        have hkm : k ∈ nd M x := List.mem_of_getElem? hk
        have hkn : k < M.length := hM x k hkm
        refine yG ?_
        refine OS.at1 (j := j) (hsw1) (ns_at hk) rfl rfl rfl rfl rfl rfl (fun ra2 oa2 rowa2 csa2 ma2 ca2 ga2 => ⟨_, rfl, ?_⟩)
        refine OS.read rfl (e_loadm ma2 ca2 rfl rfl (part_one rfl ga2)) rfl ?_
        refine yG ?_
        refine OS.at1 (j := k) (hbl) (bs_at hkn) rfl rfl rfl rfl rfl rfl (fun ra3 oa3 rowa3 csa3 ma3 ca3 ga3 => ⟨_, rfl, ?_⟩)
        refine OS.read rfl (e_loadm ma3 ca3 rfl rfl (part_one rfl ga3)) rfl ?_
        rcases tf (b k) with hbk | hbk
        · rw [hbk]
          refine yG ?_
          refine ⟨(nd M x).length - (j + 1), by omega, j + 1, b, lf, lv, X, rfl, by omega, fun y hy => ?_, hun, hri, hlf, rfl, rfl⟩
          rw [take_snoc' hk] at hy
          rcases List.mem_append.1 hy with hy | hy
          · exact hbj y hy
          · simp at hy; subst hy; exact hbk
        · rw [hbk]
          have hu := unr_upb hbk M.length hkn
          have hpost : ∀ y, y ∈ (nd M x).take (j + 1) → upb b k y = true := fun y hy => by
            rw [take_snoc' hk] at hy
            rcases List.mem_append.1 hy with hy | hy
            · exact upb_mono (hbj y hy)
            · simp at hy; subst hy; exact upb_self _ _
          have hri' := hri.add (by rw [hdr]; exact List.mem_cons_self ..) hkm
          refine yG ?_
          refine OS.pure rfl (e_index (j := k) (sz := 1) rfl rfl rfl Try.underlying42 rfl hkn) rfl ?_
          refine OS.write rfl (e_store 0 (n := 1) (cs' := bs (upb b k) M.length) rfl rfl rfl rfl rfl rfl (by rw [show 0 + k * 1 = k by omega, ← bs_upb hkn]; exact lay_one (by rw [bs_len]; omega)) rfl) rfl ?_
          refine yG ?_
          refine OS.fresh rfl (e_new (fun _ => rfl) rfl) (fun _ => rfl) (fun rb => ?_)
          rcases hlf with ⟨rfl, rfl, hlt⟩ | ⟨r2, rfl, rfl⟩
          · have hpre : SV 1 ((rb, ARow.cells tI [iN k]) :: (rq, ARow.cells tB (bs (upb b k) M.length)) :: (r, ARow.cells tI (ns l ++ J)) :: ([] ++ L)) (.slice (some ⟨r, 0, none⟩) lf.length lf.length) lf.length (ns lf) := by
              refine .inr ⟨r, 0, lf.length, _, ns l ++ J, rfl, List.mem_cons_of_mem _ (List.mem_cons_of_mem _ (List.mem_cons_self ..)), rfl, ?_⟩
              have hl2 : lf.length = m := by rw [hlt, List.length_take]; omega
              rw [hl2, hcut0 m (by omega), hlt, hm]
            have hl3 : lf.length ≤ M.length + 1 := by omega
            refine OS.fresh rfl (e_appendV (m := 1) (sz := 1) (bts := 8) (e := tI) (SV.row (sz := 1) (n := 1) (List.mem_cons_self ..) rfl) (by omega) hpre (by unfold openCap; omega) rfl rfl rfl rfl (by omega) (by omega)) (fun _ => rfl) (fun r2 => ?_)
            refine OS.sub (Sub.sums2 [(rb, .cells 3 [iN k])] (A := (rq, .cells tB (bs (upb b k) M.length)) :: (r, .cells tI (ns l ++ J)) :: ([(r2, .cells tI (ns (lf ++ [k])))] ++ L)) fun f => by simp only [ns_snoc, List.append_eq, List.map_append, List.map_cons, List.map_nil, List.sum_append, List.sum_cons, List.sum_nil, List.append_assoc, List.cons_append, List.nil_append]; omega) ?_
            refine yG ?_
            exact ⟨(nd M x).length - (j + 1), by omega, j + 1, upb b k, lf ++ [k], .slice (some ⟨r2, 0, none⟩) (lf.length + 1) openCap, [(r2, .cells tI (ns (lf ++ [k])))], rfl, by omega, hpost, by simp; omega, hri', .inr ⟨r2, by simp, rfl⟩, rfl, rfl⟩
          · have hl3 : lf.length ≤ M.length + 1 := by omega
            refine OS.fresh rfl (e_appendSV 3 (len := lf.length) (off := 0) (n := 1) (e := tI) (sz := 1) (bts := 8) (new := [iN k]) (old := ns lf) (SV.row (sz := 1) (n := 1) (cap := 1) (List.mem_cons_self ..) rfl) rfl rfl rfl rfl (by omega) (by omega) rfl (cut_all (by simp [ns_len])) rfl) (fun _ => rfl) (fun r3 => ?_)
            refine OS.sub (Sub.sums2 [(rb, .cells 3 [iN k])] (A := (rq, .cells tB (bs (upb b k) M.length)) :: (r, .cells tI (ns l ++ J)) :: ([(r3, .cells tI (ns (lf ++ [k])))] ++ L)) fun f => by simp only [ns_snoc, List.append_eq, List.map_append, List.map_cons, List.map_nil, List.sum_append, List.sum_cons, List.sum_nil, List.append_assoc, List.cons_append, List.nil_append]; omega) ?_
            refine yG ?_
            exact ⟨(nd M x).length - (j + 1), by omega, j + 1, upb b k, lf ++ [k], .slice (some ⟨r3, 0, none⟩) (lf.length + 1) openCap, [(r3, .cells tI (ns (lf ++ [k])))], rfl, by omega, hpost, by simp; omega, hri', .inr ⟨r3, by simp, rfl⟩, rfl, rfl⟩
      · have hbj2 : (!ileB (((nd M x).length : Nat) : Int) (j : Nat)) = false := by rw [ileB_eq]; simp; omega
        refine yG ?_
        refine LS.exit ?_
        refine yG ?_
        refine ⟨l.length - m - (p + 1), by omega, p + 1, b, lf, lv, X, rfl, by omega, hun, ?_, hlf, rfl, rfl⟩
        rw [hdr] at hri
        rw [List.take_of_length_le (by omega)] at hbj
        exact hri.pass hbj
    · have hbp : (!ileB ((l.length - m : Nat) : Int) (p : Nat)) = false := by rw [ileB_eq]; simp; omega
      rw [List.drop_of_length_le (by simp; omega)] at hri
      refine yG ?_
      rcases hlf with ⟨rfl, rfl, hlt⟩ | ⟨r2, rfl, rfl⟩
      · refine LS.exit ?_
        refine ⟨_, by omega, b, lf, r, lf.length, ns (l.drop m) ++ J, rfl, by omega, hri, .inr ⟨Nat.le_refl _, by unfold openCap; omega⟩, ?_, rfl⟩
        rw [hlt, hm, ← List.append_assoc, ← ns_app, List.take_append_drop]; rfl
      · refine LS.sub (Sub.drop 1 rfl) ?_
        refine LS.exit ?_
        exact ⟨_, by omega, b, lf, r2, openCap, [], rfl, by omega, hri, .inl rfl, by rw [List.append_nil]; rfl, rfl⟩
end Go.Proofs.Yteakbbnlkjckhaa
