/- Layer 6: NodeBack's law. -/
import Derived.Test.YtdffhllecojgcaaNo
namespace Go.Proofs.Ytdffhllecojgcaa
open Go.Am
open Go.Proofs.Ytdffhllecojgcaa.T
set_option linter.unusedVariables false
set_option maxRecDepth 20000

theorem err_fits {n : Nd} : ieqB (errN n) ((0 : Nat) : Int) = fitsN n := by
  unfold errN fitsN
  cases mayN n with
  | false => rfl
  | true =>
    by_cases h : (bodyN n).length ≤ 256
    · rw [if_pos rfl, if_pos h, decide_eq_true h]; rfl
    · rw [if_pos rfl, if_neg h, decide_eq_false h]; rfl
theorem same_self (n : Nd) : sameN n n = true := by unfold sameN; simp
theorem ro_bv {L : RL} {v : Value} {bs : List UInt8} (h : RO 1 L v bs.length (byteCells bs)) : BV L v bs := by
  refine .inr ⟨h.sv, fun r off cap hv => ?_⟩
  rcases h with ⟨rfl, _, _⟩ | ⟨r', cap', h1, h2, h3, _, _⟩
  · cases hv
  · rw [h1] at hv
    simp only [Value.slice.injEq] at hv
    obtain ⟨_, _, rfl⟩ := hv
    exact ⟨h3, h2⟩
theorem blk_bv {L : RL} {r : Nat} {bs : List UInt8} (h : bs.length = 256) : BV ((r, bRow bs) :: L) (.slice (some ⟨r, 0, none⟩) 256 256) bs := by
  refine .inr ⟨?_, fun r off cap hv => ?_⟩
  · rw [h]; exact SV.row (List.mem_cons_self ..) (by rw [byteCells_len]; omega)
  · simp only [Value.slice.injEq] at hv
    obtain ⟨_, _, rfl⟩ := hv
    rw [h]
    exact ⟨by decide, Nat.le_refl _⟩
theorem back_law {L : RL} {n : Nd} {v1 v2 v3 vb : Value} {bs : List UInt8} (h : NV L n v1 v2 v3) (hb : RO 1 L vb bs.length (byteCells bs)) (hbn : bs.length ≤ 9223372036854775807) : CS Try.prog 6 [ndV n.leaf v1 v2 v3, vb] L fun u L' => u = .bool true := by
  refine CS.mk (fn := Try.f6) rfl rfl rfl rfl ?_
  repeat refine LS.seq ?_
  refine LS.region rfl ?_
  refine OS.fresh rfl (e_new (fun _ => rfl) rfl) (fun _ => rfl) (fun rn => ?_)
  refine OS.pure rfl (fun _ => rfl) rfl ?_
  refine OS.nil ?_
  have h := h.cons (x := (rn, nrRow n.leaf v1 v2 v3))
  have hb := hb.mono (L' := (rn, nrRow n.leaf v1 v2 v3) :: L) fun p hp => List.mem_cons_of_mem _ hp
  repeat refine LS.seq ?_
  refine LS.mid [1, 2, 20] (fun a L' => L' = (rn, nrRow n.leaf v1 v2 v3) :: L ∧ ∃ t : Bool, a = [.chan none, vb, .pointer (some ⟨rn, 0, none⟩), .chan none, .chan none, .chan none, .chan none, .chan none, .chan none, .chan none, .chan none, .chan none, .chan none, .chan none, .chan none, .chan none, .chan none, .chan none, .chan none, .chan none, .bool t, .chan none, .chan none, .chan none, .chan none, .chan none, .chan none, .chan none, .chan none, .chan none, .chan none, .chan none, .chan none, .chan none, .chan none, .chan none, .chan none, .chan none, .chan none, .chan none, .chan none, .chan none, .chan none, .chan none, .chan none, .chan none, .chan none, .chan none, .chan none, .chan none, .chan none, .chan none, .chan none, .chan none, .chan none, .chan none, .chan none, .chan none, .chan none, .chan none, .chan none, .chan none, .chan none, .chan none, .chan none, .chan none, .chan none, .chan none, .chan none, .chan none] ∧ (t = false → n.ks.length + n.vs.length + n.kids.length ≤ 5000 ∧ bs.length ≤ 2000)) ?_ ?_
  · repeat refine LS.seq ?_
    refine LS.region rfl ?_
    refine OS.read rfl (e_load 0 rfl rfl rfl rfl rfl) rfl ?_
    refine OS.call noGo rfl (fun _ => rfl) ((large_ct h).mono ?_)
    rintro u L₁ ⟨⟨b, rfl, hlg⟩, e₁⟩
    subst e₁
    cases b with
    | true =>
      refine ⟨_, rfl, ?_⟩
      refine OS.pure rfl (fun _ => rfl) rfl ?_
      refine OS.skip rfl rfl ?_
      refine OS.skip rfl rfl ?_
      refine OS.skip rfl rfl ?_
      refine OS.pure rfl (fun _ => rfl) rfl ?_
      refine OS.pure rfl (fun _ => rfl) rfl ?_
      refine OS.skip rfl rfl ?_
      refine OS.skip rfl rfl ?_
      refine OS.pure rfl (fun _ => rfl) rfl ?_
      refine OS.nil ?_
      exact ⟨rfl, true, rfl, fun h => by cases h⟩
    | false =>
      by_cases h2 : 2000 < bs.length
      · have hb2 : (!ileB (bs.length : Int) 2000) = true := by rw [ileB_eq]; simp; omega
        refine ⟨_, rfl, ?_⟩
        refine OS.pure rfl (fun _ => rfl) rfl ?_
        refine OS.pure rfl (fun _ => rfl) rfl ?_
        refine OS.pure rfl (e_len hb.sv rfl rfl rfl rfl rfl) rfl ?_
        refine OS.pure rfl (e_is (fun _ => rfl) (congrArg Value.bool hb2)) rfl ?_
        refine OS.pure rfl (fun _ => rfl) rfl ?_
        refine OS.pure rfl (fun _ => rfl) rfl ?_
        refine OS.skip rfl rfl ?_
        refine OS.skip rfl rfl ?_
        refine OS.pure rfl (fun _ => rfl) rfl ?_
        refine OS.nil ?_
        exact ⟨rfl, true, rfl, fun h => by cases h⟩
      · have hb2 : (!ileB (bs.length : Int) 2000) = false := by rw [ileB_eq]; simp; omega
        refine ⟨_, rfl, ?_⟩
        refine OS.pure rfl (fun _ => rfl) rfl ?_
        refine OS.pure rfl (fun _ => rfl) rfl ?_
        refine OS.pure rfl (e_len hb.sv rfl rfl rfl rfl rfl) rfl ?_
        refine OS.pure rfl (e_is (fun _ => rfl) (congrArg Value.bool hb2)) rfl ?_
        refine OS.pure rfl (fun _ => rfl) rfl ?_
        refine OS.pure rfl (fun _ => rfl) rfl ?_
        refine OS.call noGo rfl (fun _ => rfl) ((awake_ct).mono ?_)
        rintro u L₁ ⟨rfl, e₁⟩
        subst e₁
        refine ⟨_, rfl, ?_⟩
        refine OS.pure rfl (fun _ => rfl) rfl ?_
        refine OS.pure rfl (fun _ => rfl) rfl ?_
        refine OS.nil ?_
        exact ⟨rfl, false, rfl, fun _ => ⟨hlg rfl, by omega⟩⟩
  rintro a L' ⟨rfl, t, rfl, ht⟩
  cases t with
  | true =>
    repeat refine LS.seq ?_
    refine LS.cond rfl (fun hc => ?_) (fun hc => ?_)
    · repeat refine LS.seq ?_
      refine LS.region rfl ?_
      refine OS.call noGo rfl (fun _ => rfl) ((awake_ct).mono ?_)
      rintro u L₁ ⟨rfl, e₁⟩
      refine ⟨_, rfl, ?_⟩
      refine OS.pure rfl (fun _ => rfl) rfl ?_
      refine OS.nil ?_
      refine LS.ret ⟨_, fun _ _ => rfl, ?_⟩
      rfl
    · cases hc
  | false =>
    obtain ⟨hs, hb2⟩ := ht rfl
    repeat refine LS.seq ?_
    refine LS.cond rfl (fun hc => ?_) (fun hc => ?_)
    · cases hc
    refine LS.skip ?_
    repeat refine LS.seq ?_
    refine LS.region rfl ?_
    refine OS.read rfl (e_load 0 rfl rfl rfl rfl rfl) rfl ?_
    refine OS.call noGo rfl (fun _ => rfl) ((given_ct h hs).mono ?_)
    rintro u L₁ ⟨Y, w1, w2, w3, rfl, rfl, hw⟩
    refine ⟨_, rfl, ?_⟩
    refine OS.call noGo rfl (fun _ => rfl) ((Encode_ct hw (by omega)).mono ?_)
    rintro u L₁ ⟨ub, rfl, hcase⟩
    refine ⟨_, rfl, ?_⟩
    refine OS.pure rfl (fun _ => rfl) rfl ?_
    refine OS.pure rfl (fun _ => rfl) rfl ?_
    refine OS.pure rfl (fun _ => rfl) rfl ?_
    refine OS.pure rfl (fun _ => rfl) rfl ?_
    refine OS.pure rfl (fun _ => rfl) rfl ?_
    refine OS.nil ?_
    have hef := @err_fits n
    rcases hcase with ⟨hf, rfl, rfl⟩ | ⟨hf, r, rfl, rfl⟩
    · rw [hf] at hef
      repeat refine LS.seq ?_
      refine LS.region rfl ?_
      refine OS.pure rfl (fun _ => rfl) rfl ?_
      refine OS.pure rfl (e_is (fun _ => rfl) (congrArg Value.bool hef)) rfl ?_
      refine OS.nil ?_
      repeat refine LS.seq ?_
      refine LS.mid [1, 2] (fun a L' => (∃ X, L' = X ++ (rn, nrRow n.leaf v1 v2 v3) :: L) ∧ a = [.chan none, vb, .pointer (some ⟨rn, 0, none⟩), .chan none, .chan none, .chan none, .chan none, .chan none, .chan none, .chan none, .chan none, .chan none, .chan none, .chan none, .chan none, .chan none, .chan none, .chan none, .chan none, .chan none, .chan none, .chan none, .chan none, .chan none, .chan none, .chan none, .chan none, .chan none, .chan none, .chan none, .chan none, .chan none, .chan none, .chan none, .chan none, .chan none, .chan none, .chan none, .chan none, .chan none, .chan none, .chan none, .chan none, .chan none, .chan none, .chan none, .chan none, .chan none, .chan none, .chan none, .chan none, .chan none, .chan none, .chan none, .chan none, .chan none, .chan none, .chan none, .chan none, .chan none, .chan none, .chan none, .chan none, .chan none, .chan none, .chan none, .chan none, .chan none, .chan none, .chan none]) ?_ ?_
      · refine LS.cond rfl (fun hc => by cases hc) (fun hc => ?_)
        refine LS.skip ?_
        exact ⟨⟨Y, rfl⟩, rfl⟩
      rintro a L' ⟨⟨X, rfl⟩, rfl⟩
      repeat refine LS.seq ?_
      refine LS.region rfl ?_
      refine OS.pure rfl (fun _ => rfl) rfl ?_
      refine OS.sub (Sub.suffix (X := X)) ?_
      refine OS.call noGo rfl (fun _ => rfl) ((Decode_ct (ro_bv hb) (by omega)).mono ?_)
      rintro u L₁ hD
      rcases hD with ⟨hD, rfl, rfl⟩ | ⟨m, u1, hD, hNB, rfl, m1, m2, m3, R1, Rb, rfl, rfl, hk, hor⟩
      · refine ⟨_, rfl, ?_⟩
        refine OS.pure rfl (fun _ => rfl) rfl ?_
        refine OS.pure rfl (fun _ => rfl) rfl ?_
        refine OS.pure rfl (fun _ => rfl) rfl ?_
        refine OS.fresh rfl (e_new (fun _ => rfl) rfl) (fun _ => rfl) (fun r9 => ?_)
        refine OS.write rfl (e_store 0 rfl rfl rfl rfl rfl rfl rfl rfl) rfl ?_
        refine OS.pure rfl (fun _ => rfl) rfl ?_
        refine OS.nil ?_
        repeat refine LS.seq ?_
        refine LS.region rfl ?_
        refine OS.pure rfl (fun _ => rfl) rfl ?_
        refine OS.pure rfl (fun _ => rfl) rfl ?_
        refine OS.nil ?_
        repeat refine LS.seq ?_
        refine LS.cond rfl (fun hc3 => ?_) (fun hc3 => ?_)
        · repeat refine LS.seq ?_
          refine LS.region rfl ?_
          refine OS.pure rfl (fun _ => rfl) rfl ?_
          refine OS.nil ?_
          refine LS.ret ⟨_, fun _ _ => rfl, ?_⟩
          rfl
        · cases hc3
      · obtain ⟨s1, s2, s3⟩ := rdn_sl hk hor
        obtain ⟨hfm, hem⟩ := decB_enc hD
        refine ⟨_, rfl, ?_⟩
        refine OS.pure rfl (fun _ => rfl) rfl ?_
        refine OS.pure rfl (fun _ => rfl) rfl ?_
        refine OS.pure rfl (fun _ => rfl) rfl ?_
        refine OS.fresh rfl (e_new (fun _ => rfl) rfl) (fun _ => rfl) (fun r9 => ?_)
        refine OS.write rfl (e_store 0 (n := 4) rfl rfl rfl rfl rfl (nd_one s1 s2 s3) rfl rfl) rfl ?_
        refine OS.pure rfl (fun _ => rfl) rfl ?_
        refine OS.nil ?_
        repeat refine LS.seq ?_
        refine LS.region rfl ?_
        refine OS.pure rfl (fun _ => rfl) rfl ?_
        refine OS.pure rfl (fun _ => rfl) rfl ?_
        refine OS.nil ?_
        repeat refine LS.seq ?_
        refine LS.cond rfl (fun hc3 => ?_) (fun hc3 => ?_)
        · cases hc3
        refine LS.skip ?_
        have hnv : NV ((r9, ndRow m.leaf m1 m2 m3) :: (R1 ++ (Rb ++ (rn, nrRow n.leaf v1 v2 v3) :: L))) m m1 m2 m3 := rdn_nv (M := L) hNB hk hor (fun p hp => by simp [hp]) (fun p hp => by simp [hp])
        repeat refine LS.seq ?_
        refine LS.region rfl ?_
        refine OS.read rfl (e_load 0 rfl rfl rfl rfl rfl) rfl ?_
        refine OS.call noGo rfl (fun _ => rfl) ((Encode_ct hnv (by have := hNB.k; omega)).mono ?_)
        rintro u L₁ ⟨ub, rfl, hcase⟩
        rcases hcase with ⟨hf', _⟩ | ⟨_, r', rfl, rfl⟩
        · rw [hfm] at hf'; cases hf'
        have hel := enc_len hfm
        have he0 : ieqB (errN m) ((0 : Nat) : Int) = true := by rw [err_fits]; exact hfm
        have hbe : bytesEq (encN m) bs = true := by rw [hem, bytesEq_eq]; simp
        refine ⟨_, rfl, ?_⟩
        refine OS.pure rfl (fun _ => rfl) rfl ?_
        refine OS.pure rfl (fun _ => rfl) rfl ?_
        refine OS.pure rfl (fun _ => rfl) rfl ?_
        refine OS.pure rfl (fun _ => rfl) rfl ?_
        refine OS.pure rfl (fun _ => rfl) rfl ?_
        refine OS.nil ?_
        repeat refine LS.seq ?_
        refine LS.region rfl ?_
        refine OS.pure rfl (fun _ => rfl) rfl ?_
        refine OS.pure rfl (e_is (fun _ => rfl) (congrArg Value.bool he0)) rfl ?_
        refine OS.pure rfl (fun _ => rfl) rfl ?_
        refine OS.pure rfl (fun _ => rfl) rfl ?_
        refine OS.read rfl (e_textSV (n := 256) (bs := encN m) (SV.row (List.mem_cons_self ..) (by rw [byteCells_len]; omega)) rfl rfl rfl rfl rfl) rfl ?_
        refine OS.pure rfl (fun _ => rfl) rfl ?_
        refine OS.read rfl (e_textSV (n := bs.length) (bs := bs) (hb.sv.mono fun p hp => List.mem_cons_of_mem _ (List.mem_cons_of_mem _ (List.mem_append_right _ (List.mem_append_right _ hp)))) rfl rfl rfl rfl rfl) rfl ?_
        refine OS.pure rfl (e_is (fun _ => rfl) (congrArg Value.bool hbe)) rfl ?_
        refine OS.pure rfl (fun _ => rfl) rfl ?_
        refine OS.pure rfl (fun _ => rfl) rfl ?_
        refine OS.nil ?_
        refine LS.ret ⟨_, fun _ _ => rfl, ?_⟩
        rfl
    · rw [hf] at hef
      have hdec := decB_of hf
      have hel := enc_len hf
      repeat refine LS.seq ?_
      refine LS.region rfl ?_
      refine OS.pure rfl (fun _ => rfl) rfl ?_
      refine OS.pure rfl (e_is (fun _ => rfl) (congrArg Value.bool hef)) rfl ?_
      refine OS.nil ?_
      repeat refine LS.seq ?_
      refine LS.mid [1, 2] (fun a L' => (∃ X, L' = X ++ (rn, nrRow n.leaf v1 v2 v3) :: L) ∧ a = [.chan none, vb, .pointer (some ⟨rn, 0, none⟩), .chan none, .chan none, .chan none, .chan none, .chan none, .chan none, .chan none, .chan none, .chan none, .chan none, .chan none, .chan none, .chan none, .chan none, .chan none, .chan none, .chan none, .chan none, .chan none, .chan none, .chan none, .chan none, .chan none, .chan none, .chan none, .chan none, .chan none, .chan none, .chan none, .chan none, .chan none, .chan none, .chan none, .chan none, .chan none, .chan none, .chan none, .chan none, .chan none, .chan none, .chan none, .chan none, .chan none, .chan none, .chan none, .chan none, .chan none, .chan none, .chan none, .chan none, .chan none, .chan none, .chan none, .chan none, .chan none, .chan none, .chan none, .chan none, .chan none, .chan none, .chan none, .chan none, .chan none, .chan none, .chan none, .chan none, .chan none]) ?_ ?_
      · refine LS.cond rfl (fun hc => ?_) (fun hc => by cases hc)
        repeat refine LS.seq ?_
        refine LS.region rfl ?_
        refine OS.pure rfl (fun _ => rfl) rfl ?_
        refine OS.call noGo rfl (fun _ => rfl) ((Decode_ct (blk_bv hel) (by omega)).mono ?_)
        rintro u L₁ hD
        rcases hD with ⟨hD, _⟩ | ⟨nd, u1, hD, hNB, rfl, m1, m2, m3, R1, Rb, rfl, rfl, hk, hor⟩
        · rw [hdec] at hD; cases hD
        rw [hdec] at hD
        obtain rfl := Option.some.inj hD
        obtain ⟨s1, s2, s3⟩ := rdn_sl hk hor
        refine ⟨_, rfl, ?_⟩
        refine OS.pure rfl (fun _ => rfl) rfl ?_
        refine OS.pure rfl (fun _ => rfl) rfl ?_
        refine OS.pure rfl (fun _ => rfl) rfl ?_
        refine OS.fresh rfl (e_new (fun _ => rfl) rfl) (fun _ => rfl) (fun r7 => ?_)
        refine OS.write rfl (e_store 0 (n := 4) rfl rfl rfl rfl rfl (nd_one s1 s2 s3) rfl rfl) rfl ?_
        refine OS.pure rfl (fun _ => rfl) rfl ?_
        refine OS.nil ?_
        have hmem : (rn, nrRow n.leaf v1 v2 v3) ∈ ((r7, ndRow n.leaf m1 m2 m3) :: (R1 ++ (Rb ++ (r, bRow (encN n)) :: (Y ++ (rn, nrRow n.leaf v1 v2 v3) :: L))) : RL) := by simp
        have hnv : NV ((r7, ndRow n.leaf m1 m2 m3) :: (R1 ++ (Rb ++ (r, bRow (encN n)) :: (Y ++ (rn, nrRow n.leaf v1 v2 v3) :: L)))) n m1 m2 m3 := rdn_nv (M := L) hNB hk hor (fun p hp => by simp [hp]) (fun p hp => by simp [hp])
        have hnv2 : NV ((r7, ndRow n.leaf m1 m2 m3) :: (R1 ++ (Rb ++ (r, bRow (encN n)) :: (Y ++ (rn, nrRow n.leaf v1 v2 v3) :: L)))) n v1 v2 v3 := h.mono fun p hp => List.mem_cons_of_mem _ (List.mem_append_right _ (List.mem_append_right _ (List.mem_cons_of_mem _ (List.mem_append_right _ hp))))
        repeat refine LS.seq ?_
        refine LS.drawn noGo mixed [(0, false), (1, false), (2, false), (3, false), (5, false), (4, true), (6, true), (7, false), (8, false), (9, false), (10, false), (11, false), (12, false), (13, false)] rfl rfl (by kernel_rfl) ?_
        refine ODS.pure rfl rfl (fun _ => rfl) rfl ?_
        refine ODS.pure rfl rfl (fun _ => rfl) rfl ?_
        refine ODS.pure rfl rfl (fun _ => rfl) rfl ?_
        refine ODS.read rfl rfl (e_load 0 rfl rfl rfl rfl rfl) rfl ?_
        refine ODS.read rfl rfl (e_loadm hmem rfl rfl rfl rfl) rfl ?_
        refine ODS.call rfl rfl (fun _ => rfl) ((back_ct s1 s2 s3).mono ?_)
        rintro u L₁ ⟨rfl, e₁⟩
        subst e₁
        refine ⟨_, rfl, Keep.cons rfl (e_loadm hmem rfl rfl rfl rfl) (Keep.gone rfl Keep.nil), ?_⟩
        refine ODS.call rfl rfl (fun _ => rfl) ((Same_ct hnv hnv2).mono ?_)
        rintro u L₁ ⟨rfl, e₁⟩
        subst e₁
        refine ⟨_, rfl, Keep.gone rfl (Keep.gone rfl Keep.nil), ?_⟩
        have hsame : (!sameN n n) = false := by rw [same_self]; rfl
        refine ODS.pure rfl rfl (e_is (fun _ => rfl) (congrArg Value.bool hsame)) rfl ?_
        refine ODS.pure rfl rfl (fun _ => rfl) rfl ?_
        refine ODS.pure rfl rfl (fun _ => rfl) rfl ?_
        refine ODS.pure rfl rfl (fun _ => rfl) rfl ?_
        refine ODS.pure rfl rfl (e_len (SV.row (sz := 1) (n := 256) (L := [(r, bRow (encN n))]) (List.mem_cons_self ..) (by rw [byteCells_len]; omega)) rfl rfl rfl rfl rfl) rfl ?_
        refine ODS.pure rfl rfl (fun _ => rfl) rfl ?_
        refine ODS.pure rfl rfl (fun _ => rfl) rfl ?_
        refine ODS.nil ?_
        repeat refine LS.seq ?_
        refine LS.cond rfl (fun hc2 => ?_) (fun hc2 => ?_)
        · cases hc2
        refine LS.skip ?_
        exact ⟨⟨(r7, ndRow n.leaf m1 m2 m3) :: (R1 ++ (Rb ++ (r, bRow (encN n)) :: Y)), by simp⟩, rfl⟩
      rintro a L' ⟨⟨X, rfl⟩, rfl⟩
      repeat refine LS.seq ?_
      refine LS.region rfl ?_
      refine OS.pure rfl (fun _ => rfl) rfl ?_
      refine OS.sub (Sub.suffix (X := X)) ?_
      refine OS.call noGo rfl (fun _ => rfl) ((Decode_ct (ro_bv hb) (by omega)).mono ?_)
      rintro u L₁ hD
      rcases hD with ⟨hD, rfl, rfl⟩ | ⟨m, u1, hD, hNB, rfl, m1, m2, m3, R1, Rb, rfl, rfl, hk, hor⟩
      · refine ⟨_, rfl, ?_⟩
        refine OS.pure rfl (fun _ => rfl) rfl ?_
        refine OS.pure rfl (fun _ => rfl) rfl ?_
        refine OS.pure rfl (fun _ => rfl) rfl ?_
        refine OS.fresh rfl (e_new (fun _ => rfl) rfl) (fun _ => rfl) (fun r9 => ?_)
        refine OS.write rfl (e_store 0 rfl rfl rfl rfl rfl rfl rfl rfl) rfl ?_
        refine OS.pure rfl (fun _ => rfl) rfl ?_
        refine OS.nil ?_
        repeat refine LS.seq ?_
        refine LS.region rfl ?_
        refine OS.pure rfl (fun _ => rfl) rfl ?_
        refine OS.pure rfl (fun _ => rfl) rfl ?_
        refine OS.nil ?_
        repeat refine LS.seq ?_
        refine LS.cond rfl (fun hc3 => ?_) (fun hc3 => ?_)
        · repeat refine LS.seq ?_
          refine LS.region rfl ?_
          refine OS.pure rfl (fun _ => rfl) rfl ?_
          refine OS.nil ?_
          refine LS.ret ⟨_, fun _ _ => rfl, ?_⟩
          rfl
        · cases hc3
      · obtain ⟨s1, s2, s3⟩ := rdn_sl hk hor
        obtain ⟨hfm, hem⟩ := decB_enc hD
        refine ⟨_, rfl, ?_⟩
        refine OS.pure rfl (fun _ => rfl) rfl ?_
        refine OS.pure rfl (fun _ => rfl) rfl ?_
        refine OS.pure rfl (fun _ => rfl) rfl ?_
        refine OS.fresh rfl (e_new (fun _ => rfl) rfl) (fun _ => rfl) (fun r9 => ?_)
        refine OS.write rfl (e_store 0 (n := 4) rfl rfl rfl rfl rfl (nd_one s1 s2 s3) rfl rfl) rfl ?_
        refine OS.pure rfl (fun _ => rfl) rfl ?_
        refine OS.nil ?_
        repeat refine LS.seq ?_
        refine LS.region rfl ?_
        refine OS.pure rfl (fun _ => rfl) rfl ?_
        refine OS.pure rfl (fun _ => rfl) rfl ?_
        refine OS.nil ?_
        repeat refine LS.seq ?_
        refine LS.cond rfl (fun hc3 => ?_) (fun hc3 => ?_)
        · cases hc3
        refine LS.skip ?_
        have hnv : NV ((r9, ndRow m.leaf m1 m2 m3) :: (R1 ++ (Rb ++ (rn, nrRow n.leaf v1 v2 v3) :: L))) m m1 m2 m3 := rdn_nv (M := L) hNB hk hor (fun p hp => by simp [hp]) (fun p hp => by simp [hp])
        repeat refine LS.seq ?_
        refine LS.region rfl ?_
        refine OS.read rfl (e_load 0 rfl rfl rfl rfl rfl) rfl ?_
        refine OS.call noGo rfl (fun _ => rfl) ((Encode_ct hnv (by have := hNB.k; omega)).mono ?_)
        rintro u L₁ ⟨ub, rfl, hcase⟩
        rcases hcase with ⟨hf', _⟩ | ⟨_, r', rfl, rfl⟩
        · rw [hfm] at hf'; cases hf'
        have hel := enc_len hfm
        have he0 : ieqB (errN m) ((0 : Nat) : Int) = true := by rw [err_fits]; exact hfm
        have hbe : bytesEq (encN m) bs = true := by rw [hem, bytesEq_eq]; simp
        refine ⟨_, rfl, ?_⟩
        refine OS.pure rfl (fun _ => rfl) rfl ?_
        refine OS.pure rfl (fun _ => rfl) rfl ?_
        refine OS.pure rfl (fun _ => rfl) rfl ?_
        refine OS.pure rfl (fun _ => rfl) rfl ?_
        refine OS.pure rfl (fun _ => rfl) rfl ?_
        refine OS.nil ?_
        repeat refine LS.seq ?_
        refine LS.region rfl ?_
        refine OS.pure rfl (fun _ => rfl) rfl ?_
        refine OS.pure rfl (e_is (fun _ => rfl) (congrArg Value.bool he0)) rfl ?_
        refine OS.pure rfl (fun _ => rfl) rfl ?_
        refine OS.pure rfl (fun _ => rfl) rfl ?_
        refine OS.read rfl (e_textSV (n := 256) (bs := encN m) (SV.row (List.mem_cons_self ..) (by rw [byteCells_len]; omega)) rfl rfl rfl rfl rfl) rfl ?_
        refine OS.pure rfl (fun _ => rfl) rfl ?_
        refine OS.read rfl (e_textSV (n := bs.length) (bs := bs) (hb.sv.mono fun p hp => List.mem_cons_of_mem _ (List.mem_cons_of_mem _ (List.mem_append_right _ (List.mem_append_right _ hp)))) rfl rfl rfl rfl rfl) rfl ?_
        refine OS.pure rfl (e_is (fun _ => rfl) (congrArg Value.bool hbe)) rfl ?_
        refine OS.pure rfl (fun _ => rfl) rfl ?_
        refine OS.pure rfl (fun _ => rfl) rfl ?_
        refine OS.nil ?_
        refine LS.ret ⟨_, fun _ _ => rfl, ?_⟩
        rfl
end Go.Proofs.Ytdffhllecojgcaa
