/- Layer 10: the document's Match: each cut is tried. -/
import Derived.Test.YtdacddkelagdnaaGd
namespace Go.Proofs.Ytdacddkelagdnaa
open Go.Am
set_option linter.unusedVariables false
set_option maxRecDepth 20000
set_option maxHeartbeats 4000000
attribute [local irreducible] OS LSr ODS CS

theorem drop_cons {s : List UInt8} {k : Nat} {c : UInt8} (h : s[k]? = some c) : s.drop k = c :: s.drop (k + 1) := by
  obtain ⟨hk, rfl⟩ := List.getElem?_eq_some_iff.1 h
  exact List.drop_eq_getElem_cons hk
/-- Does the pattern from i on match the text from m on? -/
def mB (p s : List UInt8) (i m : Nat) : Bool := ms (ps (p.drop i)) (s.drop m)
theorem mB_end {p s : List UInt8} {m : Nat} (hm : m ≤ s.length) : mB p s p.length m = decide (m = s.length) := by
  unfold mB
  rw [List.drop_length, ps_nil, ms, Bool.eq_iff_iff, List.isEmpty_iff, List.drop_eq_nil_iff]
  simp; omega
theorem mB_star {p s : List UInt8} {i m : Nat} (h : p[i]? = some 42) (h2 : p[i + 1]? ≠ some 42) : (m = s.length → mB p s i m = mB p s (i + 1) m) ∧ ∀ c, s[m]? = some c → mB p s i m = (mB p s (i + 1) m || (noSl c && mB p s i (m + 1))) := by
  have hp : ps (p.drop i) = (true, noSl) :: ps (p.drop (i + 1)) := by
    rw [drop_cons h, ps_star]
    rw [List.head?_drop]; exact h2
  constructor
  · rintro rfl
    unfold mB
    rw [hp, List.drop_length]; rfl
  · intro c hc
    unfold mB
    rw [hp, drop_cons hc]; rfl
theorem mB_two {p s : List UInt8} {i m : Nat} (h : p[i]? = some 42) (h2 : p[i + 1]? = some 42) : (m = s.length → mB p s i m = mB p s (i + 2) m) ∧ ∀ c, s[m]? = some c → mB p s i m = (mB p s (i + 2) m || mB p s i (m + 1)) := by
  have hp : ps (p.drop i) = (true, fun _ => true) :: ps (p.drop (i + 2)) := by rw [drop_cons h, drop_cons h2, ps_two]
  constructor
  · rintro rfl
    unfold mB
    rw [hp, List.drop_length]; rfl
  · intro c hc
    unfold mB
    rw [hp, drop_cons hc]; simp only [ms, spanM, Bool.true_and]
theorem mB_one {p s : List UInt8} {i m : Nat} {d : UInt8} (h : p[i]? = some d) (h1 : d ≠ 42) : (m = s.length → mB p s i m = false) ∧ ∀ c, s[m]? = some c → mB p s i m = ((if d = 63 then noSl c else c == d) && mB p s (i + 1) (m + 1)) := by
  have hp : ps (p.drop i) = (false, fun c => if d = 63 then noSl c else c == d) :: ps (p.drop (i + 1)) := by
    rw [drop_cons h]
    by_cases h2 : d = 63
    · subst h2; rw [ps_quest]; rfl
    · rw [ps_else _ h1 h2]; simp [h2]
  constructor
  · rintro rfl
    unfold mB
    rw [hp, List.drop_length]; rfl
  · intro c hc
    unfold mB
    rw [hp, drop_cons hc]; rfl

/-- This place of the table. -/
def Cl (L : RL) (O : List Value) (n j k : Nat) (b : Bool) : Prop := ∃ r c cs, O[j]? = some (.slice (some ⟨r, 0, none⟩) n c) ∧ SV 1 L (.slice (some ⟨r, 0, none⟩) n c) n cs ∧ cs[k]? = some (.bool b)
theorem one_ct {L : RL} {p s : List UInt8} {tv : Value} {O : List Value} {i m N : Nat} (hT : SV 1 L tv N O) (hp : p.length ≤ 1000000) (hs : s.length ≤ 1000000) (hi : i ≤ p.length) (hm : m ≤ s.length)
    (hc : ∀ j k, (i < j ∨ (j = i ∧ m < k)) → j ≤ p.length → k ≤ s.length → Cl L O (s.length + 1) j k (mB p s j k)) :
    CS Try.prog 41 [str p, str s, .int .i64 (i : Nat), .int .i64 (m : Nat), tv] L fun v L' => v = .bool (mB p s i m) ∧ L' = L := by
  refine CS.mk (fn := Try.f41) rfl rfl rfl rfl ?_
  by_cases hip : i = p.length
  · subst hip
    have hb : ieqB ((p.length : Nat) : Int) (p.length : Nat) = true := by rw [ieqB_eq]; simp
    refine yG ?_
    refine ⟨?_, rfl⟩
    rw [mB_end hm]
    show Value.bool (ieqB _ _) = _
    rw [ieqB_eq]
    congr 1
    rw [Bool.eq_iff_iff]; simp; omega
  have hb : ieqB ((i : Nat) : Int) (p.length : Nat) = false := by rw [ieqB_eq]; simp; omega
  obtain ⟨d, hd⟩ : ∃ d, p[i]? = some d := ⟨_, List.getElem?_eq_getElem (by omega)⟩
  by_cases h1 : d = 42
  · subst h1
    by_cases h2 : p[i + 1]? = some 42
    · have hil : i + 1 < p.length := (List.getElem?_eq_some_iff.1 h2).1
      have hb2 : (!ileB ((p.length : Nat) : Int) ((i + 1 : Nat) : Int)) = true := by rw [ileB_eq]; simp; omega
      obtain ⟨e1, e2⟩ := mB_two (s := s) (m := m) hd h2
      obtain ⟨r1, c1, cs1, o1, s1, g1⟩ := hc (i + 2) m (.inl (by omega)) (by omega) hm
      refine yG ?_
      rcases tf (mB p s (i + 2) m) with v1 | v1
      · rw [v1] at g1
        refine OS.at1 (j := i + 2) (hT) (o1) rfl rfl rfl rfl rfl rfl (fun ra1 oa1 rowa1 csa1 ma1 ca1 ga1 => ⟨_, rfl, ?_⟩)
        refine OS.read rfl (e_loadm ma1 ca1 rfl rfl (part_one rfl ga1)) rfl ?_
        refine yG ?_
        refine OS.at1 (j := m) (s1) (g1) rfl rfl rfl rfl rfl rfl (fun ra19 oa19 rowa19 csa19 ma19 ca19 ga19 => ⟨_, rfl, ?_⟩)
        refine OS.read rfl (e_loadm ma19 ca19 rfl rfl (part_one rfl ga19)) rfl ?_
        refine yG ?_
        refine ⟨?_, rfl⟩
        by_cases hme : m = s.length
        · rw [e1 hme, v1]; rfl
        · obtain ⟨c, hcb⟩ : ∃ c, s[m]? = some c := ⟨_, List.getElem?_eq_getElem (by omega)⟩
          rw [e2 c hcb, v1]; rfl
      rw [v1] at g1
      by_cases hme : m = s.length
      · have hb5 : (!ileB ((s.length : Nat) : Int) (m : Nat)) = false := by rw [ileB_eq]; simp; omega
        refine OS.at1 (j := i + 2) (hT) (o1) rfl rfl rfl rfl rfl rfl (fun ra1 oa1 rowa1 csa1 ma1 ca1 ga1 => ⟨_, rfl, ?_⟩)
        refine OS.read rfl (e_loadm ma1 ca1 rfl rfl (part_one rfl ga1)) rfl ?_
        refine yG ?_
        refine OS.at1 (j := m) (s1) (g1) rfl rfl rfl rfl rfl rfl (fun ra19 oa19 rowa19 csa19 ma19 ca19 ga19 => ⟨_, rfl, ?_⟩)
        refine OS.read rfl (e_loadm ma19 ca19 rfl rfl (part_one rfl ga19)) rfl ?_
        refine yG ?_
        refine ⟨?_, rfl⟩
        rw [e1 hme, v1]; rfl
      have hb5 : (!ileB ((s.length : Nat) : Int) (m : Nat)) = true := by rw [ileB_eq]; simp; omega
      obtain ⟨c, hcb⟩ : ∃ c, s[m]? = some c := ⟨_, List.getElem?_eq_getElem (by omega)⟩
      obtain ⟨r2, c2, cs2, o2, s2, g2⟩ := hc i (m + 1) (.inr ⟨rfl, by omega⟩) hi (by omega)
      refine OS.at1 (j := i + 2) (hT) (o1) rfl rfl rfl rfl rfl rfl (fun ra1 oa1 rowa1 csa1 ma1 ca1 ga1 => ⟨_, rfl, ?_⟩)
      refine OS.read rfl (e_loadm ma1 ca1 rfl rfl (part_one rfl ga1)) rfl ?_
      refine yG ?_
      refine OS.at1 (j := m) (s1) (g1) rfl rfl rfl rfl rfl rfl (fun ra19 oa19 rowa19 csa19 ma19 ca19 ga19 => ⟨_, rfl, ?_⟩)
      refine OS.read rfl (e_loadm ma19 ca19 rfl rfl (part_one rfl ga19)) rfl ?_
      refine yG ?_
      refine OS.at1 (j := i) (hT) (o2) rfl rfl rfl rfl rfl rfl (fun ra2 oa2 rowa2 csa2 ma2 ca2 ga2 => ⟨_, rfl, ?_⟩)
      refine OS.read rfl (e_loadm ma2 ca2 rfl rfl (part_one rfl ga2)) rfl ?_
      refine yG ?_
      refine OS.at1 (j := m + 1) (s2) (g2) rfl rfl rfl rfl rfl rfl (fun ra29 oa29 rowa29 csa29 ma29 ca29 ga29 => ⟨_, rfl, ?_⟩)
      refine OS.read rfl (e_loadm ma29 ca29 rfl rfl (part_one rfl ga29)) rfl ?_
      refine yG ?_
      refine ⟨?_, rfl⟩
      rw [e2 c hcb, v1]; rfl
    · have h2' : p[i + 1]? ≠ some 42 := h2
      obtain ⟨e1, e2⟩ := mB_star (s := s) (m := m) hd h2'
      obtain ⟨r1, c1, cs1, o1, s1, g1⟩ := hc (i + 1) m (.inl (by omega)) (by omega) hm
      by_cases hil : i + 1 < p.length
      · have hb2 : (!ileB ((p.length : Nat) : Int) ((i + 1 : Nat) : Int)) = true := by rw [ileB_eq]; simp; omega
        obtain ⟨d2, hd2⟩ : ∃ d2, p[i + 1]? = some d2 := ⟨_, List.getElem?_eq_getElem hil⟩
        have hb3 : ieqB ((d2.toNat : Nat) : Int) 42 = false := by
          rw [cmp_u8 (k := 42) d2 42 rfl]
          simp; intro h; apply h2; rw [hd2, h]
        refine yG ?_
        rcases tf (mB p s (i + 1) m) with v1 | v1
        · rw [v1] at g1
          refine OS.at1 (j := i + 1) (hT) (o1) rfl rfl rfl rfl rfl rfl (fun ra1 oa1 rowa1 csa1 ma1 ca1 ga1 => ⟨_, rfl, ?_⟩)
          refine OS.read rfl (e_loadm ma1 ca1 rfl rfl (part_one rfl ga1)) rfl ?_
          refine yG ?_
          refine OS.at1 (j := m) (s1) (g1) rfl rfl rfl rfl rfl rfl (fun ra19 oa19 rowa19 csa19 ma19 ca19 ga19 => ⟨_, rfl, ?_⟩)
          refine OS.read rfl (e_loadm ma19 ca19 rfl rfl (part_one rfl ga19)) rfl ?_
          refine yG ?_
          refine ⟨?_, rfl⟩
          by_cases hme : m = s.length
          · rw [e1 hme, v1]; rfl
          · obtain ⟨c, hcb⟩ : ∃ c, s[m]? = some c := ⟨_, List.getElem?_eq_getElem (by omega)⟩
            rw [e2 c hcb, v1]; rfl
        rw [v1] at g1
        by_cases hme : m = s.length
        · have hb5 : (!ileB ((s.length : Nat) : Int) (m : Nat)) = false := by rw [ileB_eq]; simp; omega
          refine OS.at1 (j := i + 1) (hT) (o1) rfl rfl rfl rfl rfl rfl (fun ra1 oa1 rowa1 csa1 ma1 ca1 ga1 => ⟨_, rfl, ?_⟩)
          refine OS.read rfl (e_loadm ma1 ca1 rfl rfl (part_one rfl ga1)) rfl ?_
          refine yG ?_
          refine OS.at1 (j := m) (s1) (g1) rfl rfl rfl rfl rfl rfl (fun ra19 oa19 rowa19 csa19 ma19 ca19 ga19 => ⟨_, rfl, ?_⟩)
          refine OS.read rfl (e_loadm ma19 ca19 rfl rfl (part_one rfl ga19)) rfl ?_
          refine yG ?_
          refine ⟨?_, rfl⟩
          rw [e1 hme, v1]; rfl
        have hb5 : (!ileB ((s.length : Nat) : Int) (m : Nat)) = true := by rw [ileB_eq]; simp; omega
        obtain ⟨c, hcb⟩ : ∃ c, s[m]? = some c := ⟨_, List.getElem?_eq_getElem (by omega)⟩
        obtain ⟨r2, c2, cs2, o2, s2, g2⟩ := hc i (m + 1) (.inr ⟨rfl, by omega⟩) hi (by omega)
        rcases tf (!ieqB ((c.toNat : Nat) : Int) 47) with v2 | v2
        · have hn : noSl c = true := by
            rw [cmp_u8 (k := 47) c 47 rfl] at v2; exact v2
          refine OS.at1 (j := i + 1) (hT) (o1) rfl rfl rfl rfl rfl rfl (fun ra1 oa1 rowa1 csa1 ma1 ca1 ga1 => ⟨_, rfl, ?_⟩)
          refine OS.read rfl (e_loadm ma1 ca1 rfl rfl (part_one rfl ga1)) rfl ?_
          refine yG ?_
          refine OS.at1 (j := m) (s1) (g1) rfl rfl rfl rfl rfl rfl (fun ra19 oa19 rowa19 csa19 ma19 ca19 ga19 => ⟨_, rfl, ?_⟩)
          refine OS.read rfl (e_loadm ma19 ca19 rfl rfl (part_one rfl ga19)) rfl ?_
          refine yG ?_
          refine OS.at1 (j := i) (hT) (o2) rfl rfl rfl rfl rfl rfl (fun ra2 oa2 rowa2 csa2 ma2 ca2 ga2 => ⟨_, rfl, ?_⟩)
          refine OS.read rfl (e_loadm ma2 ca2 rfl rfl (part_one rfl ga2)) rfl ?_
          refine yG ?_
          refine OS.at1 (j := m + 1) (s2) (g2) rfl rfl rfl rfl rfl rfl (fun ra29 oa29 rowa29 csa29 ma29 ca29 ga29 => ⟨_, rfl, ?_⟩)
          refine OS.read rfl (e_loadm ma29 ca29 rfl rfl (part_one rfl ga29)) rfl ?_
          refine yG ?_
          refine ⟨?_, rfl⟩
          rw [e2 c hcb, v1, hn]; rfl
        · have hn : noSl c = false := by
            rw [cmp_u8 (k := 47) c 47 rfl] at v2; exact v2
          refine OS.at1 (j := i + 1) (hT) (o1) rfl rfl rfl rfl rfl rfl (fun ra1 oa1 rowa1 csa1 ma1 ca1 ga1 => ⟨_, rfl, ?_⟩)
          refine OS.read rfl (e_loadm ma1 ca1 rfl rfl (part_one rfl ga1)) rfl ?_
          refine yG ?_
          refine OS.at1 (j := m) (s1) (g1) rfl rfl rfl rfl rfl rfl (fun ra19 oa19 rowa19 csa19 ma19 ca19 ga19 => ⟨_, rfl, ?_⟩)
          refine OS.read rfl (e_loadm ma19 ca19 rfl rfl (part_one rfl ga19)) rfl ?_
          refine yG ?_
          refine ⟨?_, rfl⟩
          rw [e2 c hcb, v1, hn]; rfl
      · have hb2 : (!ileB ((p.length : Nat) : Int) ((i + 1 : Nat) : Int)) = false := by rw [ileB_eq]; simp; omega
        refine yG ?_
        rcases tf (mB p s (i + 1) m) with v1 | v1
        · rw [v1] at g1
          refine OS.at1 (j := i + 1) (hT) (o1) rfl rfl rfl rfl rfl rfl (fun ra1 oa1 rowa1 csa1 ma1 ca1 ga1 => ⟨_, rfl, ?_⟩)
          refine OS.read rfl (e_loadm ma1 ca1 rfl rfl (part_one rfl ga1)) rfl ?_
          refine yG ?_
          refine OS.at1 (j := m) (s1) (g1) rfl rfl rfl rfl rfl rfl (fun ra19 oa19 rowa19 csa19 ma19 ca19 ga19 => ⟨_, rfl, ?_⟩)
          refine OS.read rfl (e_loadm ma19 ca19 rfl rfl (part_one rfl ga19)) rfl ?_
          refine yG ?_
          refine ⟨?_, rfl⟩
          by_cases hme : m = s.length
          · rw [e1 hme, v1]; rfl
          · obtain ⟨c, hcb⟩ : ∃ c, s[m]? = some c := ⟨_, List.getElem?_eq_getElem (by omega)⟩
            rw [e2 c hcb, v1]; rfl
        rw [v1] at g1
        by_cases hme : m = s.length
        · have hb5 : (!ileB ((s.length : Nat) : Int) (m : Nat)) = false := by rw [ileB_eq]; simp; omega
          refine OS.at1 (j := i + 1) (hT) (o1) rfl rfl rfl rfl rfl rfl (fun ra1 oa1 rowa1 csa1 ma1 ca1 ga1 => ⟨_, rfl, ?_⟩)
          refine OS.read rfl (e_loadm ma1 ca1 rfl rfl (part_one rfl ga1)) rfl ?_
          refine yG ?_
          refine OS.at1 (j := m) (s1) (g1) rfl rfl rfl rfl rfl rfl (fun ra19 oa19 rowa19 csa19 ma19 ca19 ga19 => ⟨_, rfl, ?_⟩)
          refine OS.read rfl (e_loadm ma19 ca19 rfl rfl (part_one rfl ga19)) rfl ?_
          refine yG ?_
          refine ⟨?_, rfl⟩
          rw [e1 hme, v1]; rfl
        have hb5 : (!ileB ((s.length : Nat) : Int) (m : Nat)) = true := by rw [ileB_eq]; simp; omega
        obtain ⟨c, hcb⟩ : ∃ c, s[m]? = some c := ⟨_, List.getElem?_eq_getElem (by omega)⟩
        obtain ⟨r2, c2, cs2, o2, s2, g2⟩ := hc i (m + 1) (.inr ⟨rfl, by omega⟩) hi (by omega)
        rcases tf (!ieqB ((c.toNat : Nat) : Int) 47) with v2 | v2
        · have hn : noSl c = true := by
            rw [cmp_u8 (k := 47) c 47 rfl] at v2; exact v2
          refine OS.at1 (j := i + 1) (hT) (o1) rfl rfl rfl rfl rfl rfl (fun ra1 oa1 rowa1 csa1 ma1 ca1 ga1 => ⟨_, rfl, ?_⟩)
          refine OS.read rfl (e_loadm ma1 ca1 rfl rfl (part_one rfl ga1)) rfl ?_
          refine yG ?_
          refine OS.at1 (j := m) (s1) (g1) rfl rfl rfl rfl rfl rfl (fun ra19 oa19 rowa19 csa19 ma19 ca19 ga19 => ⟨_, rfl, ?_⟩)
          refine OS.read rfl (e_loadm ma19 ca19 rfl rfl (part_one rfl ga19)) rfl ?_
          refine yG ?_
          refine OS.at1 (j := i) (hT) (o2) rfl rfl rfl rfl rfl rfl (fun ra2 oa2 rowa2 csa2 ma2 ca2 ga2 => ⟨_, rfl, ?_⟩)
          refine OS.read rfl (e_loadm ma2 ca2 rfl rfl (part_one rfl ga2)) rfl ?_
          refine yG ?_
          refine OS.at1 (j := m + 1) (s2) (g2) rfl rfl rfl rfl rfl rfl (fun ra29 oa29 rowa29 csa29 ma29 ca29 ga29 => ⟨_, rfl, ?_⟩)
          refine OS.read rfl (e_loadm ma29 ca29 rfl rfl (part_one rfl ga29)) rfl ?_
          refine yG ?_
          refine ⟨?_, rfl⟩
          rw [e2 c hcb, v1, hn]; rfl
        · have hn : noSl c = false := by
            rw [cmp_u8 (k := 47) c 47 rfl] at v2; exact v2
          refine OS.at1 (j := i + 1) (hT) (o1) rfl rfl rfl rfl rfl rfl (fun ra1 oa1 rowa1 csa1 ma1 ca1 ga1 => ⟨_, rfl, ?_⟩)
          refine OS.read rfl (e_loadm ma1 ca1 rfl rfl (part_one rfl ga1)) rfl ?_
          refine yG ?_
          refine OS.at1 (j := m) (s1) (g1) rfl rfl rfl rfl rfl rfl (fun ra19 oa19 rowa19 csa19 ma19 ca19 ga19 => ⟨_, rfl, ?_⟩)
          refine OS.read rfl (e_loadm ma19 ca19 rfl rfl (part_one rfl ga19)) rfl ?_
          refine yG ?_
          refine ⟨?_, rfl⟩
          rw [e2 c hcb, v1, hn]; rfl
  obtain ⟨e1, e2⟩ := mB_one (s := s) (m := m) hd h1
  have hb1 : ieqB ((d.toNat : Nat) : Int) 42 = false := by rw [cmp_u8 (k := 42) d 42 rfl]; simpa using h1
  refine yG ?_
  repeat refine LS.seq ?_
  repeat refine LS.seq ?_
  refine LS.drawn noGo mixed [(0, false), (1, false), (2, false), (3, false), (4, false), (5, false), (6, false), (7, false), (8, false), (9, false), (10, false), (11, false), (12, false), (13, false), (14, false), (15, false), (16, false), (17, false), (18, false), (19, false), (20, false), (21, false), (22, false), (23, false), (24, false), (25, false), (26, false), (27, false), (28, false), (29, false), (30, false)] rfl rfl (by kernel_rfl) ?_
  by_cases hme : m = s.length
  · have hb4 : ieqB ((m : Nat) : Int) (s.length : Nat) = true := by rw [ieqB_eq]; simp; omega
    refine yG ?_
    exact ⟨by rw [e1 hme]; rfl, rfl⟩
  have hb4 : ieqB ((m : Nat) : Int) (s.length : Nat) = false := by rw [ieqB_eq]; simp; omega
  obtain ⟨c, hcb⟩ : ∃ c, s[m]? = some c := ⟨_, List.getElem?_eq_getElem (by omega)⟩
  have e2 := e2 c hcb
  obtain ⟨r2, c2, cs2, o2, s2, g2⟩ := hc (i + 1) (m + 1) (.inl (by omega)) (by omega) (by omega)
  by_cases h63 : d = 63
  · subst h63
    rw [if_pos rfl] at e2
    rcases tf (ieqB ((c.toNat : Nat) : Int) 47) with v2 | v2
    · have hn : noSl c = false := by rw [cmp_u8 (k := 47) c 47 rfl] at v2; unfold noSl bne; rw [v2]; rfl
      refine yG ?_
      exact ⟨by rw [e2, hn]; rfl, rfl⟩
    · have hn : noSl c = true := by rw [cmp_u8 (k := 47) c 47 rfl] at v2; unfold noSl bne; rw [v2]; rfl
      refine yG ?_
      refine OS.at1 (j := (i + 1)) (hT) (o2) rfl rfl rfl rfl rfl rfl (fun ra1 oa1 rowa1 csa1 ma1 ca1 ga1 => ⟨_, rfl, ?_⟩)
      refine OS.read rfl (e_loadm ma1 ca1 rfl rfl (part_one rfl ga1)) rfl ?_
      refine yG ?_
      refine OS.at1 (j := (m + 1)) (s2) (g2) rfl rfl rfl rfl rfl rfl (fun ra19 oa19 rowa19 csa19 ma19 ca19 ga19 => ⟨_, rfl, ?_⟩)
      refine OS.read rfl (e_loadm ma19 ca19 rfl rfl (part_one rfl ga19)) rfl ?_
      refine yG ?_
      refine ⟨?_, rfl⟩
      rw [e2, hn, Bool.true_and]; rfl
  rw [if_neg h63] at e2
  have hb5 : ieqB ((d.toNat : Nat) : Int) 63 = false := by rw [cmp_u8 (k := 63) d 63 rfl]; simpa using h63
  have hb6 : (!ieqB ((d.toNat : Nat) : Int) 63) = true := by rw [hb5]; rfl
  by_cases hcd : c = d
  · have hb7 : (!ieqB ((d.toNat : Nat) : Int) (c.toNat : Nat)) = false := by rw [eq_u8]; simp [hcd]
    refine yG ?_
    refine OS.at1 (j := (i + 1)) (hT) (o2) rfl rfl rfl rfl rfl rfl (fun ra1 oa1 rowa1 csa1 ma1 ca1 ga1 => ⟨_, rfl, ?_⟩)
    refine OS.read rfl (e_loadm ma1 ca1 rfl rfl (part_one rfl ga1)) rfl ?_
    refine yG ?_
    refine OS.at1 (j := (m + 1)) (s2) (g2) rfl rfl rfl rfl rfl rfl (fun ra19 oa19 rowa19 csa19 ma19 ca19 ga19 => ⟨_, rfl, ?_⟩)
    refine OS.read rfl (e_loadm ma19 ca19 rfl rfl (part_one rfl ga19)) rfl ?_
    refine yG ?_
    refine ⟨?_, rfl⟩
    rw [e2, hcd, beq_self_eq_true, Bool.true_and]; rfl
  · have hb7 : (!ieqB ((d.toNat : Nat) : Int) (c.toNat : Nat)) = true := by rw [eq_u8]; simp; exact fun h => hcd h.symm
    refine yG ?_
    refine ⟨?_, rfl⟩
    rw [e2, show (c == d) = false by simpa using hcd]; rfl
end Go.Proofs.Ytdacddkelagdnaa
