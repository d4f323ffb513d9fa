/- Layer 6: NodeWrites's law. -/
import Derived.Test.YtdffhllecojgcaaNq
import Derived.Test.YtdffhllecojgcaaNp
namespace Go.Proofs.Ytdffhllecojgcaa
open Go.Am
open Go.Proofs.Ytdffhllecojgcaa.T
set_option linter.unusedVariables false
set_option maxRecDepth 20000

theorem findV_is (n : Nd) (key : List UInt8) : ∃ (i : Nat) (b : Bool), findV n key = .tuple #[.int .i64 (i : Nat), .bool b] := by
  unfold findV
  split
  · exact ⟨_, _, rfl⟩
  · exact ⟨0, _, rfl⟩
/-- The node that is handed in, and the one that is given on. -/
structure NN (M : RL) (n : Nd) (rn ri : Nat) (v1 v2 v3 w1 w2 w3 : Value) : Prop where
  mn : (rn, nrRow n.leaf v1 v2 v3) ∈ M
  mi : (ri, ndRow n.leaf w1 w2 w3) ∈ M
  nn : NV M n v1 v2 v3
  ni : NV M n w1 w2 w3
theorem NN.mono {M M' : RL} {n : Nd} {rn ri : Nat} {v1 v2 v3 w1 w2 w3 : Value} (h : NN M n rn ri v1 v2 v3 w1 w2 w3) (hm : ∀ p, p ∈ M → p ∈ M') : NN M' n rn ri v1 v2 v3 w1 w2 w3 := ⟨hm _ h.mn, hm _ h.mi, h.nn.mono hm, h.ni.mono hm⟩
theorem enc_none {n : Nd} (h : fitsN n = false) : encN n = [] := by unfold encN; rw [h]; rfl
theorem writes_law {L : RL} {n : Nd} {v1 v2 v3 : Value} {key : List UInt8} (h : NV L n v1 v2 v3) : CS Try.prog 3 [ndV n.leaf v1 v2 v3, txt key] L fun u L' => u = .bool true := by
  refine CS.mk (fn := Try.f3) rfl rfl rfl rfl ?_
  repeat refine LS.seq ?_
  refine LS.region rfl ?_
  refine OS.fresh rfl (e_new (fun _ => rfl) rfl) (fun _ => rfl) (fun rn => ?_)
  refine OS.pure rfl (fun _ => rfl) rfl ?_
  refine OS.nil ?_
  have h := h.cons (x := (rn, nrRow n.leaf v1 v2 v3))
  repeat refine LS.seq ?_
  refine LS.region rfl ?_
  refine OS.read rfl (e_load 0 rfl rfl rfl rfl rfl) rfl ?_
  refine OS.call noGo rfl (fun _ => rfl) ((large_ct h).mono ?_)
  rintro u L₁ ⟨⟨b, rfl, hb⟩, e₁⟩
  subst e₁
  cases b with
  | true =>
    refine ⟨_, rfl, ?_⟩
    refine OS.nil ?_
    repeat refine LS.seq ?_
    refine LS.cond rfl (fun hc => ?_) (fun hc => ?_)
    · repeat refine LS.seq ?_
      refine LS.region rfl ?_
      refine OS.call noGo rfl (fun _ => rfl) ((awake_ct).mono ?_)
      rintro u L₁ ⟨rfl, e₁⟩
      refine ⟨_, rfl, ?_⟩
      refine OS.pure rfl (fun _ => rfl) rfl ?_
      refine OS.nil ?_
      refine LS.ret ⟨_, fun _ _ => rfl, ?_⟩
      rfl
    · cases hc
  | false =>
    have hb := hb rfl
    refine ⟨_, rfl, ?_⟩
    refine OS.nil ?_
    repeat refine LS.seq ?_
    refine LS.cond rfl (fun hc => ?_) (fun hc => ?_)
    · cases hc
    refine LS.skip ?_
    repeat refine LS.seq ?_
    refine LS.region rfl ?_
    refine OS.read rfl (e_load 0 rfl rfl rfl rfl rfl) rfl ?_
    refine OS.call noGo rfl (fun _ => rfl) ((given_ct h hb).mono ?_)
    rintro u L₁ ⟨Y, w1, w2, w3, rfl, rfl, hw⟩
    refine ⟨_, rfl, ?_⟩
    refine OS.fresh rfl (e_new (fun _ => rfl) rfl) (fun _ => rfl) (fun ri => ?_)
    refine OS.write rfl (e_store 0 (n := 4) rfl rfl rfl rfl rfl (nd_one (isSl hw.k) (isSl hw.v) (isSl hw.z)) rfl rfl) rfl ?_
    refine OS.nil ?_
    have hN : NN ((ri, ndRow n.leaf w1 w2 w3) :: (Y ++ (rn, nrRow n.leaf v1 v2 v3) :: L)) n rn ri v1 v2 v3 w1 w2 w3 := ⟨by simp, by simp, h.mono (fun p hp => List.mem_cons_of_mem _ (List.mem_append_right _ hp)), hw.mono (fun p hp => List.mem_cons_of_mem _ hp)⟩
    generalize (ri, ndRow n.leaf w1 w2 w3) :: (Y ++ (rn, nrRow n.leaf v1 v2 v3) :: L) = M at hN
    repeat refine LS.seq ?_
    refine LS.mid [1, 2, 5, 6, 7] (fun a L' => ∃ ub, NN L' n rn ri v1 v2 v3 w1 w2 w3 ∧ SV 1 L' ub (encN n).length (byteCells (encN n)) ∧ a = [.chan none, txt key, .pointer (some ⟨rn, 0, none⟩), .chan none, .chan none, .pointer (some ⟨ri, 0, none⟩), ub, .int .i64 (errN n), .chan none, .chan none, .chan none, .chan none, .chan none, .chan none, .chan none, .chan none, .chan none, .chan none, .chan none, .chan none, .chan none, .chan none, .chan none, .chan none, .chan none, .chan none, .chan none, .chan none, .chan none, .chan none, .chan none, .chan none, .chan none, .chan none, .chan none, .chan none, .chan none, .chan none, .chan none, .chan none, .chan none, .chan none, .chan none, .chan none, .chan none, .chan none, .chan none, .chan none, .chan none, .chan none, .chan none, .chan none, .chan none, .chan none, .chan none, .chan none, .chan none, .chan none, .chan none, .chan none, .chan none, .chan none, .chan none, .chan none, .chan none, .chan none, .chan none, .chan none, .chan none, .chan none, .chan none, .chan none, .chan none, .chan none, .chan none, .chan none, .chan none, .chan none, .chan none, .chan none, .chan none, .chan none]) ?_ ?_
    · repeat refine LS.seq ?_
      refine LS.region rfl ?_
      refine OS.read rfl (e_loadm hN.mi rfl rfl rfl rfl) rfl ?_
      refine OS.call noGo rfl (fun _ => rfl) ((Encode_ct hN.ni (by omega)).mono ?_)
      rintro u L₁ ⟨ub, rfl, hcase⟩
      refine ⟨_, rfl, ?_⟩
      refine OS.pure rfl (fun _ => rfl) rfl ?_
      refine OS.pure rfl (fun _ => rfl) rfl ?_
      refine OS.pure rfl (fun _ => rfl) rfl ?_
      refine OS.pure rfl (fun _ => rfl) rfl ?_
      refine OS.pure rfl (fun _ => rfl) rfl ?_
      refine OS.nil ?_
      rcases hcase with ⟨hf, rfl, rfl⟩ | ⟨hf, r, rfl, rfl⟩
      · exact ⟨_, hN, by rw [enc_none hf]; exact .inl ⟨rfl, rfl, rfl⟩, rfl⟩
      · exact ⟨_, hN.mono (fun p hp => List.mem_cons_of_mem _ hp), by rw [enc_len hf]; exact SV.row (List.mem_cons_self ..) (by rw [byteCells_len, enc_len hf]), rfl⟩
    rintro a M ⟨ub, hN, hub, rfl⟩
    repeat refine LS.seq ?_
    refine LS.mid [1, 2, 5, 6, 7, 8, 9] (fun a L' => ∃ uc, NN L' n rn ri v1 v2 v3 w1 w2 w3 ∧ SV 1 L' ub (encN n).length (byteCells (encN n)) ∧ SV 1 L' uc (encN n).length (byteCells (encN n)) ∧ a = [.chan none, txt key, .pointer (some ⟨rn, 0, none⟩), .chan none, .chan none, .pointer (some ⟨ri, 0, none⟩), ub, .int .i64 (errN n), uc, .int .i64 (errN n), .chan none, .chan none, .chan none, .chan none, .chan none, .chan none, .chan none, .chan none, .chan none, .chan none, .chan none, .chan none, .chan none, .chan none, .chan none, .chan none, .chan none, .chan none, .chan none, .chan none, .chan none, .chan none, .chan none, .chan none, .chan none, .chan none, .chan none, .chan none, .chan none, .chan none, .chan none, .chan none, .chan none, .chan none, .chan none, .chan none, .chan none, .chan none, .chan none, .chan none, .chan none, .chan none, .chan none, .chan none, .chan none, .chan none, .chan none, .chan none, .chan none, .chan none, .chan none, .chan none, .chan none, .chan none, .chan none, .chan none, .chan none, .chan none, .chan none, .chan none, .chan none, .chan none, .chan none, .chan none, .chan none, .chan none, .chan none, .chan none, .chan none, .chan none, .chan none, .chan none]) ?_ ?_
    · repeat refine LS.seq ?_
      refine LS.region rfl ?_
      refine OS.read rfl (e_loadm hN.mn rfl rfl rfl rfl) rfl ?_
      refine OS.call noGo rfl (fun _ => rfl) ((rEncode_ct hN.nn (by omega)).mono ?_)
      rintro u L₁ ⟨uc, rfl, hcase⟩
      refine ⟨_, rfl, ?_⟩
      refine OS.pure rfl (fun _ => rfl) rfl ?_
      refine OS.pure rfl (fun _ => rfl) rfl ?_
      refine OS.pure rfl (fun _ => rfl) rfl ?_
      refine OS.pure rfl (fun _ => rfl) rfl ?_
      refine OS.pure rfl (fun _ => rfl) rfl ?_
      refine OS.nil ?_
      rcases hcase with ⟨hf, rfl, rfl⟩ | ⟨hf, r, rfl, rfl⟩
      · exact ⟨_, hN, hub, by rw [enc_none hf]; exact .inl ⟨rfl, rfl, rfl⟩, rfl⟩
      · exact ⟨_, hN.mono (fun p hp => List.mem_cons_of_mem _ hp), hub.mono (fun p hp => List.mem_cons_of_mem _ hp), SV.row (List.mem_cons_self ..) (by rw [byteCells_len]; omega), rfl⟩
    rintro a M ⟨uc, hN, hub, huc, rfl⟩
    obtain ⟨i, x, hfv⟩ := findV_is n key
    repeat refine LS.seq ?_
    refine LS.region rfl ?_
    refine OS.read rfl (e_loadm hN.mi rfl rfl rfl rfl) rfl ?_
    refine OS.pure rfl (fun _ => rfl) rfl ?_
    refine OS.call noGo rfl (fun _ => rfl) (((Find_ct (key := key) hN.ni (by omega))).mono ?_)
    rintro u L₁ ⟨rfl, e₁⟩
    subst e₁
    rw [hfv]
    refine ⟨_, rfl, ?_⟩
    refine OS.pure rfl (fun _ => rfl) rfl ?_
    refine OS.pure rfl (fun _ => rfl) rfl ?_
    refine OS.pure rfl (fun _ => rfl) rfl ?_
    refine OS.pure rfl (fun _ => rfl) rfl ?_
    refine OS.pure rfl (fun _ => rfl) rfl ?_
    refine OS.nil ?_
    repeat refine LS.seq ?_
    refine LS.region rfl ?_
    refine OS.read rfl (e_loadm hN.mn rfl rfl rfl rfl) rfl ?_
    refine OS.pure rfl (fun _ => rfl) rfl ?_
    refine OS.call noGo rfl (fun _ => rfl) (((rFind_ct (key := key) hN.nn)).mono ?_)
    rintro u L₁ ⟨rfl, e₁⟩
    subst e₁
    rw [hfv]
    refine ⟨_, rfl, ?_⟩
    refine OS.pure rfl (fun _ => rfl) rfl ?_
    refine OS.pure rfl (fun _ => rfl) rfl ?_
    refine OS.pure rfl (fun _ => rfl) rfl ?_
    refine OS.pure rfl (fun _ => rfl) rfl ?_
    refine OS.pure rfl (fun _ => rfl) rfl ?_
    refine OS.nil ?_
    have c1 : (!ieqB (errN n) (errN n)) = false := by rw [ieqB_eq]; simp
    have c2 : (!bytesEq (encN n) (encN n)) = false := neq_self _
    have c3 : (!ieqB (i : Int) (i : Nat)) = false := by rw [ieqB_eq]; simp
    have c4 : (x != x) = false := by simp
    repeat refine LS.seq ?_
    refine LS.region rfl ?_
    refine OS.pure rfl (fun _ => rfl) rfl ?_
    refine OS.pure rfl (fun _ => rfl) rfl ?_
    refine OS.pure rfl (e_is (fun _ => rfl) (congrArg Value.bool c1)) rfl ?_
    refine OS.pure rfl (fun _ => rfl) rfl ?_
    refine OS.pure rfl (fun _ => rfl) rfl ?_
    refine OS.read rfl (e_textSV hub rfl rfl rfl rfl rfl) rfl ?_
    refine OS.pure rfl (fun _ => rfl) rfl ?_
    refine OS.read rfl (e_textSV huc rfl rfl rfl rfl rfl) rfl ?_
    refine OS.pure rfl (e_is (fun _ => rfl) (congrArg Value.bool c2)) rfl ?_
    refine OS.pure rfl (fun _ => rfl) rfl ?_
    refine OS.pure rfl (fun _ => rfl) rfl ?_
    refine OS.pure rfl (fun _ => rfl) rfl ?_
    refine OS.pure rfl (fun _ => rfl) rfl ?_
    refine OS.pure rfl (e_is (fun _ => rfl) (congrArg Value.bool c3)) rfl ?_
    refine OS.pure rfl (fun _ => rfl) rfl ?_
    refine OS.pure rfl (fun _ => rfl) rfl ?_
    refine OS.pure rfl (fun _ => rfl) rfl ?_
    refine OS.pure rfl (fun _ => rfl) rfl ?_
    refine OS.pure rfl (e_is (fun _ => rfl) (congrArg Value.bool c4)) rfl ?_
    refine OS.pure rfl (fun _ => rfl) rfl ?_
    refine OS.nil ?_
    repeat refine LS.seq ?_
    refine LS.cond rfl (fun hc => ?_) (fun hc => ?_)
    · cases hc
    refine LS.skip ?_
    have d1 : ieqB ((sizeN n : Nat) : Int) (sizeN n : Nat) = true := by rw [ieqB_eq]; simp
    have d2 : (fitsN n == fitsN n) = true := by simp
    repeat refine LS.seq ?_
    refine LS.drawn noGo mixed [(0, false), (2, false), (1, true), (3, true), (4, false), (5, false), (6, false), (8, false), (9, false), (7, true), (10, false), (11, false), (12, false), (13, false), (15, false), (14, true), (16, true), (17, false), (18, false), (19, true), (20, false), (21, false)] rfl rfl (by kernel_rfl) ?_
    refine ODS.read rfl rfl (e_loadm hN.mi rfl rfl rfl rfl) rfl ?_
    refine ODS.read rfl rfl (e_loadm hN.mn rfl rfl rfl rfl) rfl ?_
    refine ODS.call rfl rfl (fun _ => rfl) (((Size_ct hN.ni (by omega))).mono ?_)
    rintro u L₁ ⟨rfl, e₁⟩
    subst e₁
    refine ⟨_, rfl, Keep.cons rfl (e_loadm hN.mn rfl rfl rfl rfl) (Keep.gone rfl Keep.nil), ?_⟩
    refine ODS.call rfl rfl (fun _ => rfl) (((rSize_ct hN.nn (by omega))).mono ?_)
    rintro u L₁ ⟨rfl, e₁⟩
    subst e₁
    refine ⟨_, rfl, Keep.gone rfl (Keep.gone rfl Keep.nil), ?_⟩
    refine ODS.pure rfl rfl (e_is (fun _ => rfl) (congrArg Value.bool d1)) rfl ?_
    refine ODS.pure rfl rfl (fun _ => rfl) rfl ?_
    refine ODS.read rfl rfl (e_loadm hN.mi rfl rfl rfl rfl) rfl ?_
    refine ODS.pure rfl rfl (fun _ => rfl) rfl ?_
    refine ODS.pure rfl rfl (e_is (fun _ => rfl) (congrArg Value.bool err_fits)) rfl ?_
    refine ODS.call rfl rfl (fun _ => rfl) (((Fits_ct hN.ni (by omega))).mono ?_)
    rintro u L₁ ⟨rfl, e₁⟩
    subst e₁
    refine ⟨_, rfl, Keep.gone rfl (Keep.gone rfl (Keep.gone rfl Keep.nil)), ?_⟩
    refine ODS.pure rfl rfl (e_is (fun _ => rfl) (congrArg Value.bool d2)) rfl ?_
    refine ODS.pure rfl rfl (fun _ => rfl) rfl ?_
    refine ODS.pure rfl rfl (fun _ => rfl) rfl ?_
    refine ODS.read rfl rfl (e_loadm hN.mi rfl rfl rfl rfl) rfl ?_
    refine ODS.read rfl rfl (e_loadm hN.mn rfl rfl rfl rfl) rfl ?_
    refine ODS.call rfl rfl (fun _ => rfl) (((back_ct (isSl hN.ni.k) (isSl hN.ni.v) (isSl hN.ni.z))).mono ?_)
    rintro u L₁ ⟨rfl, e₁⟩
    subst e₁
    refine ⟨_, rfl, Keep.cons rfl (e_loadm hN.mn rfl rfl rfl rfl) (Keep.gone rfl (Keep.gone rfl (Keep.gone rfl (Keep.gone rfl Keep.nil)))), ?_⟩
    refine ODS.call rfl rfl (fun _ => rfl) (((Same_ct hN.ni hN.nn)).mono ?_)
    rintro u L₁ ⟨rfl, e₁⟩
    subst e₁
    refine ⟨_, rfl, Keep.gone rfl (Keep.gone rfl (Keep.gone rfl (Keep.gone rfl (Keep.gone rfl Keep.nil)))), ?_⟩
    rw [same_self]
    refine ODS.pure rfl rfl (fun _ => rfl) rfl ?_
    refine ODS.pure rfl rfl (fun _ => rfl) rfl ?_
    refine ODS.call rfl rfl (fun _ => rfl) ((awake_ct).mono ?_)
    rintro u L₁ ⟨rfl, e₁⟩
    subst e₁
    refine ⟨_, rfl, Keep.gone rfl (Keep.gone rfl (Keep.gone rfl (Keep.gone rfl (Keep.gone rfl Keep.nil)))), ?_⟩
    refine ODS.pure rfl rfl (fun _ => rfl) rfl ?_
    refine ODS.pure rfl rfl (fun _ => rfl) rfl ?_
    refine ODS.nil ?_
    refine LS.ret ⟨_, fun _ _ => rfl, ?_⟩
    rfl
end Go.Proofs.Ytdffhllecojgcaa
