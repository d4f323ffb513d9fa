/- Layer 6, pure: what is written is read, and the other way round. -/
import Derived.Test.YtdffhllecojgcaaNm
namespace Go.Proofs.Ytdffhllecojgcaa
open Go.Am
open Go.Proofs.Ytdffhllecojgcaa.T
set_option linter.unusedVariables false

theorem take_pre {p bs : List UInt8} (h : p <+: bs) : bs = p ++ bs.drop p.length := by
  obtain ⟨r, rfl⟩ := h
  rw [List.drop_left]
theorem tk_ok {α : Type} {z t : α} {k : Nat} {s : St} (h : (tk z t k s).2.2 = false) : s.2 = false ∧ k ≠ 0 ∧ tk z t k s = (t, (s.1.drop k, false)) := by
  unfold tk at h ⊢
  split at h
  · rename_i hs; rw [hs] at h; cases h
  · rename_i hs
    split at h
    · cases h
    · rename_i hk
      rw [if_neg hs, if_neg hk]
      exact ⟨by simpa using hs, hk, rfl⟩
theorem cAt_ok {bs : List UInt8} {most : Int} (h : (cAt bs most).2 ≠ 0) : ∃ w : Nat, (w : Int) ≤ most ∧ w ≤ 2147483647 ∧ grp w <+: bs ∧ cAt bs most = (w, (grp w).length) := by
  unfold cAt at h ⊢
  split at h
  · rename_i hc
    rcases gat_inv bs with h0 | ⟨w, hp, he, hw⟩
    · rw [h0] at h; exact absurd rfl h
    · rw [he] at hc
      rw [if_pos (by rw [he]; exact hc), he]
      exact ⟨w, hc.2.1, hc.2.2, hp, rfl⟩
  · exact absurd rfl h
theorem rdC_ok {most : Int} {s : St} (h : (rdC most s).2.2 = false) : s.2 = false ∧ s.1 = cnt (rdC most s).1 ++ (rdC most s).2.1 := by
  unfold rdC at h ⊢
  obtain ⟨h1, h2, h3⟩ := tk_ok h
  obtain ⟨w, h4, h5, h6, h7⟩ := cAt_ok h2
  rw [h3, h7]
  refine ⟨h1, ?_⟩
  show s.1 = cnt (w : Int) ++ s.1.drop (grp w).length
  rw [cnt_nat h5]
  exact take_pre h6
theorem rdT_ok {most : Int} {s : St} (h : (rdT most s).2.2 = false) : s.2 = false ∧ s.1 = tB (rdT most s).1 ++ (rdT most s).2.1 := by
  unfold rdT at h ⊢
  obtain ⟨h1, h2, h3⟩ := tk_ok h
  rw [h3]
  refine ⟨h1, ?_⟩
  unfold sAt at h2 ⊢
  split at h2
  · exact absurd rfl h2
  · rename_i hc
    rw [if_neg hc]
    have hd : (cAt s.1 most).2 ≠ 0 := fun h => hc (.inl h)
    have hl : ¬ s.1.length < (cAt s.1 most).2 + (cAt s.1 most).1 := fun h => hc (.inr h)
    obtain ⟨w, h4, h5, h6, h7⟩ := cAt_ok hd
    rw [h7] at hl ⊢
    simp only at hl ⊢
    have hlen : ((s.1.drop (grp w).length).take w).length = w := by simp; omega
    unfold tB
    rw [hlen, List.append_assoc, ← List.drop_drop, List.take_append_drop]
    exact take_pre h6
theorem rdF_ok {s : St} (h : (rdF s).2.2 = false) : s.2 = false ∧ s.1 = [if (rdF s).1 then 1 else 0] ++ (rdF s).2.1 := by
  unfold rdF at h ⊢
  obtain ⟨h1, h2, h3⟩ := tk_ok h
  rw [h3]
  refine ⟨h1, ?_⟩
  obtain ⟨bs, f⟩ := s
  cases bs with
  | nil => exact absurd rfl h2
  | cons c bs =>
    show c :: bs = [if (fAt (c :: bs)).1 then 1 else 0] ++ (c :: bs).drop (fAt (c :: bs)).2
    change (fAt (c :: bs)).2 ≠ 0 at h2
    by_cases hc : 1 < c.toNat
    · have hfa : fAt (c :: bs) = (false, 0) := by simp only [fAt]; rw [if_pos hc]
      rw [hfa] at h2
      exact absurd rfl h2
    · have hfa : fAt (c :: bs) = (c == 1, 1) := by simp only [fAt]; rw [if_neg hc]
      rw [hfa]
      by_cases h : c = 1
      · subst h; rfl
      · have : c = 0 := by
          apply UInt8.toNat_inj.1
          have h' : c.toNat ≠ 1 := fun hh => h (UInt8.toNat_inj.1 hh)
          show c.toNat = 0
          omega
        subst this
        rfl
theorem zipB_snoc : ∀ {ks bs : List (List UInt8)} {k b : List UInt8}, ks.length = bs.length → zipB (ks ++ [k]) (bs ++ [b]) = zipB ks bs ++ (tB k ++ b)
  | [], [], k, b, _ => by simp [zipB]
  | [], _ :: _, _, _, h => by simp at h
  | _ :: _, [], _, _, h => by simp at h
  | c :: ks, d :: bs, k, b, h => by
    simp only [List.cons_append, zipB, zipB_snoc (ks := ks) (bs := bs) (by simpa using h), List.append_assoc]
/-- As many behind as keys. -/
def GoodN (n : Nd) : Prop := (n.leaf = true ∧ n.vs.length = n.ks.length ∧ n.kids = []) ∨ (n.leaf = false ∧ n.kids.length = n.ks.length + 1 ∧ n.vs = [])
theorem good_beh {n : Nd} (h : GoodN n) : (behN n).length = n.ks.length := by
  unfold behN
  rcases h with ⟨h1, h2, _⟩ | ⟨h1, h2, _⟩
  · rw [h1, if_pos rfl, List.length_map]; exact h2
  · rw [h1, if_neg (by decide), List.length_map, List.length_tail, h2]; rfl
def workN (x : Nd × St) : List UInt8 := firstN x.1 ++ (zipB x.1.ks (behN x.1) ++ x.2.1)
theorem rStep_ok {x : Nd × St} (hg : GoodN x.1) (h : (rBeh (rKey x)).2.2 = false) : x.2.2 = false ∧ GoodN (rBeh (rKey x)).1 ∧ workN (rBeh (rKey x)) = workN x ∧ (rBeh (rKey x)).1.ks.length = x.1.ks.length + 1 ∧ (rBeh (rKey x)).1.leaf = x.1.leaf := by
  have hgb := good_beh hg
  obtain ⟨⟨lf, ks, vs, kids⟩, s⟩ := x
  rcases hg with ⟨h1, h2, h3⟩ | ⟨h1, h2, h3⟩
  · simp only at h1 h2 h3
    subst h1; subst h3
    have he : rBeh (rKey (⟨true, ks, vs, []⟩, s)) = (⟨true, ks ++ [(rdT 32 s).1], vs ++ [(rdT 64 (rdT 32 s).2).1], []⟩, (rdT 64 (rdT 32 s).2).2) := rfl
    rw [he] at h ⊢
    obtain ⟨k1, k2⟩ := rdT_ok h
    obtain ⟨k3, k4⟩ := rdT_ok k1
    refine ⟨k3, .inl ⟨rfl, by simp [h2], rfl⟩, ?_, by simp, rfl⟩
    have hb : behN ⟨true, ks ++ [(rdT 32 s).1], vs ++ [(rdT 64 (rdT 32 s).2).1], []⟩ = behN ⟨true, ks, vs, []⟩ ++ [tB (rdT 64 (rdT 32 s).2).1] := by simp [behN]
    unfold workN
    rw [hb, zipB_snoc hgb.symm]
    show firstN ⟨true, _, _, []⟩ ++ (zipB ks (behN ⟨true, ks, vs, []⟩) ++ (tB (rdT 32 s).1 ++ tB (rdT 64 (rdT 32 s).2).1) ++ (rdT 64 (rdT 32 s).2).2.1) = firstN ⟨true, ks, vs, []⟩ ++ (zipB ks (behN ⟨true, ks, vs, []⟩) ++ s.1)
    rw [k4, k2]
    simp [firstN]
  · simp only at h1 h2 h3
    subst h1; subst h3
    have he : rBeh (rKey (⟨false, ks, [], kids⟩, s)) = (⟨false, ks ++ [(rdT 32 s).1], [], kids ++ [(rdC 32768 (rdT 32 s).2).1]⟩, (rdC 32768 (rdT 32 s).2).2) := rfl
    rw [he] at h ⊢
    obtain ⟨k1, k2⟩ := rdC_ok h
    obtain ⟨k3, k4⟩ := rdT_ok k1
    refine ⟨k3, .inr ⟨rfl, by simp [h2], rfl⟩, ?_, by simp, rfl⟩
    cases kids with
    | nil => simp at h2
    | cons z0 kids =>
      have hb : behN ⟨false, ks ++ [(rdT 32 s).1], [], z0 :: kids ++ [(rdC 32768 (rdT 32 s).2).1]⟩ = behN ⟨false, ks, [], z0 :: kids⟩ ++ [cnt (rdC 32768 (rdT 32 s).2).1] := by simp [behN]
      unfold workN
      rw [hb, zipB_snoc hgb.symm]
      show firstN ⟨false, _, [], z0 :: kids ++ _⟩ ++ (zipB ks (behN ⟨false, ks, [], z0 :: kids⟩) ++ (tB (rdT 32 s).1 ++ cnt (rdC 32768 (rdT 32 s).2).1) ++ (rdC 32768 (rdT 32 s).2).2.1) = firstN ⟨false, ks, [], z0 :: kids⟩ ++ (zipB ks (behN ⟨false, ks, [], z0 :: kids⟩) ++ s.1)
      rw [k4, k2]
      simp [firstN]
theorem rLoop_ok : ∀ {k : Nat} {x : Nd × St}, GoodN x.1 → (rLoop k x).2.2 = false → x.2.2 = false ∧ GoodN (rLoop k x).1 ∧ workN (rLoop k x) = workN x ∧ (rLoop k x).1.ks.length = x.1.ks.length + k ∧ (rLoop k x).1.leaf = x.1.leaf
  | 0, x, hg, h => ⟨h, hg, rfl, rfl, rfl⟩
  | k + 1, x, hg, h => by
    have hf : (rBeh (rKey x)).2.2 = false := by
      cases hb : (rBeh (rKey x)).2.2 with
      | false => rfl
      | true =>
        exfalso
        have : ∀ (k : Nat) (y : Nd × St), y.2.2 = true → (rLoop k y).2.2 = true := by
          intro k
          induction k with
          | zero => intro y hy; exact hy
          | succ k ih =>
            intro y hy
            refine ih _ ?_
            have h1 : (rKey y).2.2 = true := by
              cases hc : (rKey y).2.2 with
              | true => rfl
              | false => have := (tk_ok hc).1; rw [hy] at this; cases this
            cases hc : (rBeh (rKey y)).2.2 with
            | true => rfl
            | false =>
              unfold rBeh at hc
              split at hc
              · have := (tk_ok hc).1; rw [h1] at this; cases this
              · have := (tk_ok hc).1; rw [h1] at this; cases this
        have := this k _ hb
        rw [show rLoop (k + 1) x = rLoop k (rBeh (rKey x)) from rfl] at h
        rw [this] at h
        cases h
    -- one step, and the others
    by_cases hx : GoodN (rBeh (rKey x)).1 ∧ workN (rBeh (rKey x)) = workN x
    · obtain ⟨g1, g2, g3, g4, g5⟩ := rStep_ok hg hf
      obtain ⟨r1, r2, r3, r4, r5⟩ := rLoop_ok (k := k) g2 (show (rLoop k (rBeh (rKey x))).2.2 = false from h)
      exact ⟨g1, r2, r3.trans g3, by show (rLoop k (rBeh (rKey x))).1.ks.length = _; rw [r4, g4]; omega, r5.trans g5⟩
    · obtain ⟨g1, g2, g3, g4, g5⟩ := rStep_ok hg hf
      exact absurd ⟨g2, g3⟩ hx
/-- What was read is what the bytes begin with. -/
theorem rNode_ok {bs : List UInt8} (h : (rNode bs).2.2 = false) : bs = bodyN (rNode bs).1 ++ (rNode bs).2.1 := by
  have hstart : (rStart bs).2.2 = false → GoodN (rStart bs).1 ∧ (rStart bs).1.ks = [] ∧ (rStart bs).1.leaf = (rHead bs).1 ∧ (rCnt bs).2.2 = false ∧ workN (rStart bs) = (rCnt bs).2.1 := by
    intro hs
    unfold rStart at hs ⊢
    cases hl : (rHead bs).1 with
    | true =>
      rw [hl] at hs
      exact ⟨.inl ⟨rfl, rfl, rfl⟩, rfl, rfl, hs, by simp [workN, firstN, zipB]⟩
    | false =>
      rw [hl] at hs
      have he : rBeh (⟨false, [], [], []⟩, (rCnt bs).2) = (⟨false, [], [], [(rdC 32768 (rCnt bs).2).1]⟩, (rdC 32768 (rCnt bs).2).2) := rfl
      rw [if_neg (by decide), he] at hs ⊢
      obtain ⟨k1, k2⟩ := rdC_ok hs
      exact ⟨.inr ⟨rfl, rfl, rfl⟩, rfl, rfl, k1, by rw [k2]; simp [workN, firstN, zipB]⟩
  have hgs : GoodN (rStart bs).1 := by
    unfold rStart
    split
    · exact .inl ⟨rfl, rfl, rfl⟩
    · exact .inr ⟨rfl, rfl, rfl⟩
  obtain ⟨r1, r2, r3, r4, r5⟩ := rLoop_ok (k := (rCnt bs).1.toNat) hgs h
  obtain ⟨s1, s2, s3, s4, s5⟩ := hstart r1
  obtain ⟨c1, c2⟩ := rdC_ok (most := 256) (s := (rHead bs).2) s4
  obtain ⟨f1, f2⟩ := rdF_ok (s := (bs, false)) c1
  have hc := rdC_le (most := 256) (s := (rHead bs).2) (by decide)
  change bs = [if (rHead bs).1 then 1 else 0] ++ (rHead bs).2.1 at f2
  change (rHead bs).2.1 = cnt (rCnt bs).1 ++ (rCnt bs).2.1 at c2
  change 0 ≤ (rCnt bs).1 ∧ (rCnt bs).1 ≤ 256 at hc
  have hk : (rNode bs).1.ks.length = (rCnt bs).1.toNat := by
    show (rLoop _ _).1.ks.length = _
    rw [r4, s2]; simp
  have hlf : (rNode bs).1.leaf = (rHead bs).1 := r5.trans s3
  have hcn : cnt (rCnt bs).1 = grp (rCnt bs).1.toNat := by
    obtain ⟨c, hcc⟩ := Int.eq_ofNat_of_zero_le hc.1
    rw [hcc, cnt_nat (by omega), Int.toNat_natCast]
  have hw : workN (rNode bs) = (rCnt bs).2.1 := r3.trans s5
  unfold bodyN headN
  rw [hk, hlf]
  unfold workN at hw
  rw [List.append_assoc, List.append_assoc, List.append_assoc, hw, ← hcn, ← c2]
  exact f2
theorem decB_enc {bs : List UInt8} {n : Nd} (h : decB bs = some n) : fitsN n = true ∧ encN n = bs := by
  unfold decB at h
  split at h
  · rename_i hc
    obtain ⟨h1, h2, h3, h4⟩ := hc
    obtain rfl := Option.some.inj h
    have hb := rNode_ok h2
    have hl := congrArg List.length hb
    rw [List.length_append, h1] at hl
    have hf : fitsN (rNode bs).1 = true := by
      unfold fitsN
      rw [h3, decide_eq_true (by omega)]
      rfl
    refine ⟨hf, ?_⟩
    unfold encN
    rw [if_pos hf]
    have hz : (rNode bs).2.1 = List.replicate (256 - (bodyN (rNode bs).1).length) 0 := by
      rw [List.eq_replicate_iff]
      refine ⟨by omega, fun b hb => ?_⟩
      have := List.all_eq_true.1 h4 b hb
      simpa using this
    rw [← hz]
    exact hb.symm
  · cases h
theorem gat_of {w : Nat} {bs : List UInt8} (hw : w ≤ 2147483647) (h : grp w <+: bs) : gat bs = (w, (grp w).length) := gat_some (by omega) h
theorem grp_nz (w : Nat) : (grp w).length ≠ 0 := by have := grp_pos w; omega
theorem rdC_of {most : Int} {z : Int} {r : List UInt8} (h0 : 0 ≤ z) (h1 : z ≤ most) (h2 : z ≤ 2147483647) : rdC most (cnt z ++ r, false) = (z, (r, false)) := by
  obtain ⟨w, rfl⟩ := Int.eq_ofNat_of_zero_le h0
  rw [cnt_nat (by omega)]
  have hg := gat_of (w := w) (bs := grp w ++ r) (by omega) (List.prefix_append _ _)
  have hc : cAt (grp w ++ r) most = (w, (grp w).length) := by rw [cAt_yes (by omega) (by rw [hg]; exact h1) (by rw [hg]; omega), hg]
  unfold rdC
  simp only [hc]
  rw [tk_some (grp_nz w), List.drop_left]
theorem rdT_of {most : Int} {t r : List UInt8} (h1 : (t.length : Int) ≤ most) (h2 : t.length ≤ 2147483647) : rdT most (tB t ++ r, false) = (t, (r, false)) := by
  have hg := gat_of (w := t.length) (bs := tB t ++ r) (by omega) (by unfold tB; rw [List.append_assoc]; exact List.prefix_append _ _)
  have hc : cAt (tB t ++ r) most = (t.length, (grp t.length).length) := by rw [cAt_yes (by omega) (by rw [hg]; exact h1) (by rw [hg]; omega), hg]
  have hs : sAt (tB t ++ r) most = (t, (grp t.length).length + t.length) := by
    rw [sAt_eq hc, if_neg (by have := grp_nz t.length; simp only [tB, List.length_append]; omega)]
    unfold tB
    rw [List.append_assoc, List.drop_left, List.take_left]
  unfold rdT
  simp only [hs]
  rw [tk_some (by have := grp_nz t.length; omega)]
  unfold tB
  rw [← List.drop_drop, List.append_assoc, List.drop_left, List.drop_left]
theorem rLoop_leaf : ∀ {ks vs : List (List UInt8)} {k0 v0 : List (List UInt8)} {r : List UInt8}, ks.length = vs.length → (∀ k ∈ ks, k.length ≤ 32) → (∀ v ∈ vs, v.length ≤ 64) →
    rLoop ks.length (⟨true, k0, v0, []⟩, (zipB ks (vs.map tB) ++ r, false)) = (⟨true, k0 ++ ks, v0 ++ vs, []⟩, (r, false))
  | [], [], k0, v0, r, _, _, _ => by simp [rLoop, zipB]
  | [], _ :: _, _, _, _, h, _, _ => by simp at h
  | _ :: _, [], _, _, _, h, _, _ => by simp at h
  | k :: ks, v :: vs, k0, v0, r, h, hk, hv => by
    have e1 : rdT 32 (tB k ++ (tB v ++ (zipB ks (vs.map tB) ++ r)), false) = (k, (tB v ++ (zipB ks (vs.map tB) ++ r), false)) := rdT_of (by have := hk k (List.mem_cons_self ..); omega) (by have := hk k (List.mem_cons_self ..); omega)
    have e2 : rdT 64 (tB v ++ (zipB ks (vs.map tB) ++ r), false) = (v, (zipB ks (vs.map tB) ++ r, false)) := rdT_of (by have := hv v (List.mem_cons_self ..); omega) (by have := hv v (List.mem_cons_self ..); omega)
    have hst : rBeh (rKey (⟨true, k0, v0, []⟩, (zipB (k :: ks) ((v :: vs).map tB) ++ r, false))) = (⟨true, k0 ++ [k], v0 ++ [v], []⟩, (zipB ks (vs.map tB) ++ r, false)) := by
      have hz : zipB (k :: ks) ((v :: vs).map tB) ++ r = tB k ++ (tB v ++ (zipB ks (vs.map tB) ++ r)) := by simp [zipB]
      rw [hz]
      simp only [rKey, e1, rBeh, if_true, e2]
    show rLoop ks.length (rBeh (rKey _)) = _
    rw [hst, rLoop_leaf (by simpa using h) (fun k h => hk k (List.mem_cons_of_mem _ h)) (fun v h => hv v (List.mem_cons_of_mem _ h))]
    simp
theorem rLoop_kids : ∀ {ks : List (List UInt8)} {zs : List Int} {k0 : List (List UInt8)} {z0 : List Int} {r : List UInt8}, ks.length = zs.length → (∀ k ∈ ks, k.length ≤ 32) → (∀ z ∈ zs, 0 ≤ z ∧ z ≤ 32768) →
    rLoop ks.length (⟨false, k0, [], z0⟩, (zipB ks (zs.map cnt) ++ r, false)) = (⟨false, k0 ++ ks, [], z0 ++ zs⟩, (r, false))
  | [], [], k0, v0, r, _, _, _ => by simp [rLoop, zipB]
  | [], _ :: _, _, _, _, h, _, _ => by simp at h
  | _ :: _, [], _, _, _, h, _, _ => by simp at h
  | k :: ks, v :: vs, k0, v0, r, h, hk, hv => by
    have e1 : rdT 32 (tB k ++ (cnt v ++ (zipB ks (vs.map cnt) ++ r)), false) = (k, (cnt v ++ (zipB ks (vs.map cnt) ++ r), false)) := rdT_of (by have := hk k (List.mem_cons_self ..); omega) (by have := hk k (List.mem_cons_self ..); omega)
    have e2 : rdC 32768 (cnt v ++ (zipB ks (vs.map cnt) ++ r), false) = (v, (zipB ks (vs.map cnt) ++ r, false)) := rdC_of (hv v (List.mem_cons_self ..)).1 (hv v (List.mem_cons_self ..)).2 (by have := (hv v (List.mem_cons_self ..)).2; omega)
    have hst : rBeh (rKey (⟨false, k0, [], v0⟩, (zipB (k :: ks) ((v :: vs).map cnt) ++ r, false))) = (⟨false, k0 ++ [k], [], v0 ++ [v]⟩, (zipB ks (vs.map cnt) ++ r, false)) := by
      have hz : zipB (k :: ks) ((v :: vs).map cnt) ++ r = tB k ++ (cnt v ++ (zipB ks (vs.map cnt) ++ r)) := by simp [zipB]
      rw [hz]
      simp only [rKey, e1, rBeh, Bool.false_eq_true, if_false, e2]
    show rLoop ks.length (rBeh (rKey _)) = _
    rw [hst, rLoop_kids (by simpa using h) (fun k h => hk k (List.mem_cons_of_mem _ h)) (fun v h => hv v (List.mem_cons_of_mem _ h))]
    simp
theorem keys_256 {n : Nd} (h : fitsN n = true) : n.ks.length ≤ 256 := by
  have hm : mayN n = true := by unfold fitsN at h; simp at h; exact h.1
  have hl : (bodyN n).length ≤ 256 := by unfold fitsN at h; simp at h; exact h.2
  have : ∀ {ks bs : List (List UInt8)}, ks.length = bs.length → ks.length ≤ (zipB ks bs).length := by
    intro ks
    induction ks with
    | nil => intro bs _; simp
    | cons k ks ih =>
      intro bs hb
      cases bs with
      | nil => simp at hb
      | cons b bs =>
        have h1 := ih (bs := bs) (by simpa using hb)
        have h2 := grp_nz k.length
        simp only [zipB, tB, List.length_append, List.length_cons]
        omega
  have := this (beh_len hm).symm
  unfold bodyN at hl
  simp only [List.length_append] at hl
  omega
theorem rNode_enc {n : Nd} {r : List UInt8} (h : fitsN n = true) : rNode (bodyN n ++ r) = (n, (r, false)) := by
  have hm : mayN n = true := by unfold fitsN at h; simp at h; exact h.1
  have h256 := keys_256 h
  have hks := may_ks hm
  obtain ⟨lf, ks, vs, kids⟩ := n
  simp only at h256 hks
  have hF : rHead (bodyN ⟨lf, ks, vs, kids⟩ ++ r) = (lf, (grp ks.length ++ (firstN ⟨lf, ks, vs, kids⟩ ++ (zipB ks (behN ⟨lf, ks, vs, kids⟩) ++ r)), false)) := by
    unfold rHead rdF bodyN headN
    cases lf <;> simp [fAt, tk]
  have hC : rCnt (bodyN ⟨lf, ks, vs, kids⟩ ++ r) = ((ks.length : Int), (firstN ⟨lf, ks, vs, kids⟩ ++ (zipB ks (behN ⟨lf, ks, vs, kids⟩) ++ r), false)) := by
    unfold rCnt
    rw [hF, ← cnt_nat (by omega)]
    exact rdC_of (by omega) (by omega) (by omega)
  unfold rNode rStart
  rw [hC, hF]
  cases lf with
  | true =>
    obtain ⟨h1, h2, h3⟩ := may_vs hm rfl
    simp only at h1 h2 h3
    subst h2
    simp only [if_true, Int.toNat_natCast]
    have := rLoop_leaf (ks := ks) (vs := vs) (k0 := []) (v0 := []) (r := r) h1.symm hks h3
    simpa [firstN, behN] using this
  | false =>
    obtain ⟨h1, h2, h3⟩ := may_kids hm rfl
    simp only at h1 h2 h3
    subst h2
    cases kids with
    | nil => simp at h1
    | cons z zs =>
      have hz := h3 z (List.mem_cons_self ..)
      have e2 : rdC 32768 (cnt z ++ (zipB ks (zs.map cnt) ++ r), false) = (z, (zipB ks (zs.map cnt) ++ r, false)) := rdC_of hz.1 hz.2 (by omega)
      have hst : rBeh (⟨false, [], [], []⟩, (firstN ⟨false, ks, [], z :: zs⟩ ++ (zipB ks (behN ⟨false, ks, [], z :: zs⟩) ++ r), false)) = (⟨false, [], [], [z]⟩, (zipB ks (zs.map cnt) ++ r, false)) := by
        have : firstN ⟨false, ks, [], z :: zs⟩ ++ (zipB ks (behN ⟨false, ks, [], z :: zs⟩) ++ r) = cnt z ++ (zipB ks (zs.map cnt) ++ r) := by simp [firstN, behN]
        rw [this]
        simp only [rBeh, Bool.false_eq_true, if_false, e2, List.nil_append]
      simp only [Bool.false_eq_true, if_false, Int.toNat_natCast]
      rw [hst]
      have := rLoop_kids (ks := ks) (zs := zs) (k0 := []) (z0 := [z]) (r := r) (by simpa using h1.symm) hks (fun z h => h3 z (List.mem_cons_of_mem _ h))
      simpa using this
theorem decB_of {n : Nd} (h : fitsN n = true) : decB (encN n) = some n := by
  have hm : mayN n = true := by unfold fitsN at h; simp at h; exact h.1
  have hl := enc_len h
  have he : encN n = bodyN n ++ List.replicate (256 - (bodyN n).length) 0 := by unfold encN; rw [if_pos h]
  have hr : rNode (encN n) = (n, (List.replicate (256 - (bodyN n).length) 0, false)) := by rw [he]; exact rNode_enc h
  unfold decB
  rw [hr, if_pos]
  exact ⟨hl, rfl, hm, by simp⟩
end Go.Proofs.Ytdffhllecojgcaa
