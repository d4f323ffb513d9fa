/- Layer 6: a node that is more than a statement goes over; NodeFinds's law. -/
import Derived.Test.YtdffhllecojgcaaNf
import Derived.Test.YtdffhllecojgcaaNn
namespace Go.Proofs.Ytdffhllecojgcaa
open Go.Am
set_option linter.unusedVariables false
set_option maxRecDepth 20000

theorem large_ct {L : RL} {n : Nd} {v1 v2 v3 : Value} (h : NV L n v1 v2 v3) : CS Try.prog 9 [ndV n.leaf v1 v2 v3] L fun u L' => (∃ b, u = .bool b ∧ (b = false → n.ks.length + n.vs.length + n.kids.length ≤ 5000)) ∧ L' = L := by
  suffices g : CS Try.prog 9 [ndV n.leaf v1 v2 v3] L fun u L' => (∃ b, u = .bool b ∧ (b = false → n.ks.length + n.vs.length + n.kids.length ≤ 5000)) ∧ ∃ x, L' = x :: L by
    exact g.less fun u L' ⟨h1, x, h2⟩ => ⟨L, by rw [h2]; exact Sub.tail, h1, rfl⟩
  have hkn := h.kn
  have hvn := h.vn
  have hzn := h.zn
  obtain ⟨lf, ks, vs, kids⟩ := n
  simp only at hkn hvn hzn
  refine CS.mk (fn := Try.f9) rfl rfl rfl rfl ?_
  repeat refine LS.seq ?_
  refine LS.region rfl ?_
  refine OS.fresh rfl (e_new (fun _ => rfl) rfl) (fun _ => rfl) (fun rn => ?_)
  refine OS.pure rfl (fun _ => rfl) rfl ?_
  refine OS.nil ?_
  have h := h.cons (x := (rn, nrRow lf v1 v2 v3))
  obtain ⟨hk, hv, hz, _, _, _, hkl, hvl⟩ := h
  simp only at hk hv hz hkl hvl
  repeat refine LS.seq ?_
  refine LS.region rfl ?_
  refine OS.pure rfl (fun _ => rfl) rfl ?_
  refine OS.read rfl (e_load 0 rfl rfl rfl rfl rfl) rfl ?_
  refine OS.pure rfl (e_len hk rfl rfl rfl rfl rfl) rfl ?_
  refine OS.pure rfl (fun _ => rfl) rfl ?_
  refine OS.read rfl (e_load 0 rfl rfl rfl rfl rfl) rfl ?_
  refine OS.pure rfl (e_len hv rfl rfl rfl rfl rfl) rfl ?_
  refine OS.pure rfl (e_add (m := ks.length) (n := vs.length) rfl rfl rfl (in_i64 (by omega) (by omega))) rfl ?_
  refine OS.pure rfl (fun _ => rfl) rfl ?_
  refine OS.read rfl (e_load 0 rfl rfl rfl rfl rfl) rfl ?_
  refine OS.pure rfl (e_len hz rfl rfl rfl rfl rfl) rfl ?_
  refine OS.pure rfl (e_is (e_add (m := (ks.length : Int) + vs.length) (n := kids.length) rfl rfl rfl (in_i64 (by omega) (by omega))) (congrArg (Value.int .i64) (show (ks.length : Int) + vs.length + kids.length = ((ks.length + vs.length + kids.length : Nat) : Int) by omega))) rfl ?_
  refine OS.pure rfl (fun _ => rfl) rfl ?_
  refine OS.nil ?_
  repeat refine LS.seq ?_
  refine LS.region rfl ?_
  refine OS.pure rfl (fun _ => rfl) rfl ?_
  refine OS.nil ?_
  repeat refine LS.seq ?_
  refine LS.mid [1, 3] (fun a L' => ∃ acc : Nat, ks.length + vs.length + kids.length ≤ acc ∧ acc ≤ 2727000000000000000 ∧ L' = (rn, nrRow lf v1 v2 v3) :: L ∧ a = [.chan none, .pointer (some ⟨rn, 0, none⟩), .chan none, .int .i64 (acc : Nat), .chan none, .chan none, .chan none, .chan none, .chan none, .chan none, .chan none, .chan none, .chan none, .chan none, .chan none, .chan none, .chan none, .chan none, .chan none, .chan none, .chan none, .chan none, .chan none, .chan none, .chan none, .chan none, .chan none, .chan none, .chan none, .chan none, .chan none, .chan none, .chan none, .chan none, .chan none, .chan none, .chan none, .chan none, .chan none, .chan none, .chan none, .chan none, .chan none, .chan none, .chan none, .chan none, .chan none, .chan none, .chan none, .chan none, .chan none, .chan none, .chan none, .chan none, .chan none, .chan none, .chan none]) ?_ ?_
  · repeat refine LS.seq ?_
    refine LS.block ?_
    refine LS.loopJ [1, 3, 4] (fun q a L' => ∃ j acc : Nat, q = ks.length - j ∧ j ≤ ks.length ∧ j ≤ 300 ∧ ks.length + vs.length + kids.length ≤ acc ∧ acc ≤ 27000000000000000 + j * 9000000000000000 ∧ L' = (rn, nrRow lf v1 v2 v3) :: L ∧ a = [.chan none, .pointer (some ⟨rn, 0, none⟩), .chan none, .int .i64 (acc : Nat), .int .i64 (j : Nat), .chan none, .chan none, .chan none, .chan none, .chan none, .chan none, .chan none, .chan none, .chan none, .chan none, .chan none, .chan none, .chan none, .chan none, .chan none, .chan none, .chan none, .chan none, .chan none, .chan none, .chan none, .chan none, .chan none, .chan none, .chan none, .chan none, .chan none, .chan none, .chan none, .chan none, .chan none, .chan none, .chan none, .chan none, .chan none, .chan none, .chan none, .chan none, .chan none, .chan none, .chan none, .chan none, .chan none, .chan none, .chan none, .chan none, .chan none, .chan none, .chan none, .chan none, .chan none, .chan none]) (n := ks.length) rfl ⟨0, _, rfl, by omega, by omega, by omega, by omega, rfl, rfl⟩ ?_
    rintro q a L' ⟨j, acc, rfl, hj, h300, hlo, hhi, rfl, rfl⟩
    by_cases h1 : j < ks.length
    · have hb1 : (!ileB (ks.length : Int) (j : Nat)) = true := by rw [ileB_eq]; simp; omega
      by_cases h2 : j < 300
      · have hb2 : (!ileB 300 (j : Int)) = true := by rw [ileB_eq]; simp; omega
        have hl := hkl _ (List.getElem_mem h1)
        repeat refine LS.seq ?_
        refine LS.region rfl ?_
        refine OS.pure rfl (fun _ => rfl) rfl ?_
        refine OS.pure rfl (fun _ => rfl) rfl ?_
        refine OS.read rfl (e_load 0 rfl rfl rfl rfl rfl) rfl ?_
        refine OS.pure rfl (e_len hk rfl rfl rfl rfl rfl) rfl ?_
        refine OS.pure rfl (e_is (fun _ => rfl) (congrArg Value.bool hb1)) rfl ?_
        refine OS.pure rfl (fun _ => rfl) rfl ?_
        refine OS.pure rfl (fun _ => rfl) rfl ?_
        refine OS.pure rfl (e_is (fun _ => rfl) (congrArg Value.bool hb2)) rfl ?_
        refine OS.pure rfl (fun _ => rfl) rfl ?_
        refine OS.nil ?_
        repeat refine LS.seq ?_
        refine LS.cond rfl (fun hc => ?_) (fun hc => by cases hc)
        refine LS.skip ?_
        repeat refine LS.seq ?_
        refine LS.block ?_
        repeat refine LS.seq ?_
        refine LS.region rfl ?_
        refine OS.pure rfl (fun _ => rfl) rfl ?_
        refine OS.pure rfl (fun _ => rfl) rfl ?_
        refine OS.read rfl (e_load 0 rfl rfl rfl rfl rfl) rfl ?_
        refine OS.pure rfl (fun _ => rfl) rfl ?_
        refine OS.at1 (j := j) hk (tx_at h1) rfl rfl rfl rfl rfl rfl (fun r0 o0 row0 cs0 m0 c0 g0 => ?_)
        refine ⟨_, rfl, ?_⟩
        refine OS.read rfl (e_loadm m0 c0 rfl rfl (part_one rfl g0)) rfl ?_
        refine OS.pure rfl (fun _ => rfl) rfl ?_
        refine OS.pure rfl (e_is (e_add (m := (acc : Int)) (n := ks[j].length) rfl rfl rfl (in_i64 (by omega) (by omega))) (congrArg (Value.int .i64) (show (acc : Int) + ks[j].length = ((acc + ks[j].length : Nat) : Int) by omega))) rfl ?_
        refine OS.pure rfl (fun _ => rfl) rfl ?_
        refine OS.nil ?_
        repeat refine LS.seq ?_
        refine LS.region rfl ?_
        refine OS.pure rfl (fun _ => rfl) rfl ?_
        refine OS.pure rfl (e_add (m := j) (n := 1) rfl rfl rfl (in_i64 (by omega) (by omega))) rfl ?_
        refine OS.pure rfl (fun _ => rfl) rfl ?_
        refine OS.nil ?_
        exact ⟨ks.length - (j + 1), by omega, j + 1, acc + ks[j].length, rfl, by omega, by omega, by omega, by omega, rfl, rfl⟩
      · have hb2 : (!ileB 300 (j : Int)) = false := by rw [ileB_eq]; simp; omega
        repeat refine LS.seq ?_
        refine LS.region rfl ?_
        refine OS.pure rfl (fun _ => rfl) rfl ?_
        refine OS.pure rfl (fun _ => rfl) rfl ?_
        refine OS.read rfl (e_load 0 rfl rfl rfl rfl rfl) rfl ?_
        refine OS.pure rfl (e_len hk rfl rfl rfl rfl rfl) rfl ?_
        refine OS.pure rfl (e_is (fun _ => rfl) (congrArg Value.bool hb1)) rfl ?_
        refine OS.pure rfl (fun _ => rfl) rfl ?_
        refine OS.pure rfl (fun _ => rfl) rfl ?_
        refine OS.pure rfl (e_is (fun _ => rfl) (congrArg Value.bool hb2)) rfl ?_
        refine OS.pure rfl (fun _ => rfl) rfl ?_
        refine OS.nil ?_
        repeat refine LS.seq ?_
        refine LS.cond rfl (fun hc => ?_) (fun hc => ?_)
        · cases hc
        refine LS.exit ?_
        exact ⟨acc, hlo, by omega, rfl, rfl⟩
    · have hb1 : (!ileB (ks.length : Int) (j : Nat)) = false := by rw [ileB_eq]; simp; omega
      repeat refine LS.seq ?_
      refine LS.region rfl ?_
      refine OS.pure rfl (fun _ => rfl) rfl ?_
      refine OS.pure rfl (fun _ => rfl) rfl ?_
      refine OS.read rfl (e_load 0 rfl rfl rfl rfl rfl) rfl ?_
      refine OS.pure rfl (e_len hk rfl rfl rfl rfl rfl) rfl ?_
      refine OS.pure rfl (e_is (fun _ => rfl) (congrArg Value.bool hb1)) rfl ?_
      refine OS.pure rfl (fun _ => rfl) rfl ?_
      refine OS.skip rfl rfl ?_
      refine OS.skip rfl rfl ?_
      refine OS.pure rfl (fun _ => rfl) rfl ?_
      refine OS.nil ?_
      repeat refine LS.seq ?_
      refine LS.cond rfl (fun hc => ?_) (fun hc => ?_)
      · cases hc
      refine LS.exit ?_
      exact ⟨acc, hlo, by omega, rfl, rfl⟩
  rintro a L' ⟨acc0, hlo0, hhi0, rfl, rfl⟩
  repeat refine LS.seq ?_
  refine LS.region rfl ?_
  refine OS.pure rfl (fun _ => rfl) rfl ?_
  refine OS.nil ?_
  repeat refine LS.seq ?_
  refine LS.mid [1, 3] (fun a L' => ∃ acc : Nat, ks.length + vs.length + kids.length ≤ acc ∧ acc ≤ 5427000000000000000 ∧ L' = (rn, nrRow lf v1 v2 v3) :: L ∧ a = [.chan none, .pointer (some ⟨rn, 0, none⟩), .chan none, .int .i64 (acc : Nat), .chan none, .chan none, .chan none, .chan none, .chan none, .chan none, .chan none, .chan none, .chan none, .chan none, .chan none, .chan none, .chan none, .chan none, .chan none, .chan none, .chan none, .chan none, .chan none, .chan none, .chan none, .chan none, .chan none, .chan none, .chan none, .chan none, .chan none, .chan none, .chan none, .chan none, .chan none, .chan none, .chan none, .chan none, .chan none, .chan none, .chan none, .chan none, .chan none, .chan none, .chan none, .chan none, .chan none, .chan none, .chan none, .chan none, .chan none, .chan none, .chan none, .chan none, .chan none, .chan none, .chan none]) ?_ ?_
  · repeat refine LS.seq ?_
    refine LS.block ?_
    refine LS.loopJ [1, 3, 5] (fun q a L' => ∃ j acc : Nat, q = vs.length - j ∧ j ≤ vs.length ∧ j ≤ 300 ∧ ks.length + vs.length + kids.length ≤ acc ∧ acc ≤ 2727000000000000000 + j * 9000000000000000 ∧ L' = (rn, nrRow lf v1 v2 v3) :: L ∧ a = [.chan none, .pointer (some ⟨rn, 0, none⟩), .chan none, .int .i64 (acc : Nat), .chan none, .int .i64 (j : Nat), .chan none, .chan none, .chan none, .chan none, .chan none, .chan none, .chan none, .chan none, .chan none, .chan none, .chan none, .chan none, .chan none, .chan none, .chan none, .chan none, .chan none, .chan none, .chan none, .chan none, .chan none, .chan none, .chan none, .chan none, .chan none, .chan none, .chan none, .chan none, .chan none, .chan none, .chan none, .chan none, .chan none, .chan none, .chan none, .chan none, .chan none, .chan none, .chan none, .chan none, .chan none, .chan none, .chan none, .chan none, .chan none, .chan none, .chan none, .chan none, .chan none, .chan none, .chan none]) (n := vs.length) rfl ⟨0, acc0, rfl, by omega, by omega, by omega, by omega, rfl, rfl⟩ ?_
    rintro q a L' ⟨j, acc, rfl, hj, h300, hlo, hhi, rfl, rfl⟩
    by_cases h1 : j < vs.length
    · have hb1 : (!ileB (vs.length : Int) (j : Nat)) = true := by rw [ileB_eq]; simp; omega
      by_cases h2 : j < 300
      · have hb2 : (!ileB 300 (j : Int)) = true := by rw [ileB_eq]; simp; omega
        have hl := hvl _ (List.getElem_mem h1)
        repeat refine LS.seq ?_
        refine LS.region rfl ?_
        refine OS.pure rfl (fun _ => rfl) rfl ?_
        refine OS.pure rfl (fun _ => rfl) rfl ?_
        refine OS.read rfl (e_load 0 rfl rfl rfl rfl rfl) rfl ?_
        refine OS.pure rfl (e_len hv rfl rfl rfl rfl rfl) rfl ?_
        refine OS.pure rfl (e_is (fun _ => rfl) (congrArg Value.bool hb1)) rfl ?_
        refine OS.pure rfl (fun _ => rfl) rfl ?_
        refine OS.pure rfl (fun _ => rfl) rfl ?_
        refine OS.pure rfl (e_is (fun _ => rfl) (congrArg Value.bool hb2)) rfl ?_
        refine OS.pure rfl (fun _ => rfl) rfl ?_
        refine OS.nil ?_
        repeat refine LS.seq ?_
        refine LS.cond rfl (fun hc => ?_) (fun hc => by cases hc)
        refine LS.skip ?_
        repeat refine LS.seq ?_
        refine LS.block ?_
        repeat refine LS.seq ?_
        refine LS.region rfl ?_
        refine OS.pure rfl (fun _ => rfl) rfl ?_
        refine OS.pure rfl (fun _ => rfl) rfl ?_
        refine OS.read rfl (e_load 0 rfl rfl rfl rfl rfl) rfl ?_
        refine OS.pure rfl (fun _ => rfl) rfl ?_
        refine OS.at1 (j := j) hv (tx_at h1) rfl rfl rfl rfl rfl rfl (fun r0 o0 row0 cs0 m0 c0 g0 => ?_)
        refine ⟨_, rfl, ?_⟩
        refine OS.read rfl (e_loadm m0 c0 rfl rfl (part_one rfl g0)) rfl ?_
        refine OS.pure rfl (fun _ => rfl) rfl ?_
        refine OS.pure rfl (e_is (e_add (m := (acc : Int)) (n := vs[j].length) rfl rfl rfl (in_i64 (by omega) (by omega))) (congrArg (Value.int .i64) (show (acc : Int) + vs[j].length = ((acc + vs[j].length : Nat) : Int) by omega))) rfl ?_
        refine OS.pure rfl (fun _ => rfl) rfl ?_
        refine OS.nil ?_
        repeat refine LS.seq ?_
        refine LS.region rfl ?_
        refine OS.pure rfl (fun _ => rfl) rfl ?_
        refine OS.pure rfl (e_add (m := j) (n := 1) rfl rfl rfl (in_i64 (by omega) (by omega))) rfl ?_
        refine OS.pure rfl (fun _ => rfl) rfl ?_
        refine OS.nil ?_
        exact ⟨vs.length - (j + 1), by omega, j + 1, acc + vs[j].length, rfl, by omega, by omega, by omega, by omega, rfl, rfl⟩
      · have hb2 : (!ileB 300 (j : Int)) = false := by rw [ileB_eq]; simp; omega
        repeat refine LS.seq ?_
        refine LS.region rfl ?_
        refine OS.pure rfl (fun _ => rfl) rfl ?_
        refine OS.pure rfl (fun _ => rfl) rfl ?_
        refine OS.read rfl (e_load 0 rfl rfl rfl rfl rfl) rfl ?_
        refine OS.pure rfl (e_len hv rfl rfl rfl rfl rfl) rfl ?_
        refine OS.pure rfl (e_is (fun _ => rfl) (congrArg Value.bool hb1)) rfl ?_
        refine OS.pure rfl (fun _ => rfl) rfl ?_
        refine OS.pure rfl (fun _ => rfl) rfl ?_
        refine OS.pure rfl (e_is (fun _ => rfl) (congrArg Value.bool hb2)) rfl ?_
        refine OS.pure rfl (fun _ => rfl) rfl ?_
        refine OS.nil ?_
        repeat refine LS.seq ?_
        refine LS.cond rfl (fun hc => ?_) (fun hc => ?_)
        · cases hc
        refine LS.exit ?_
        exact ⟨acc, hlo, by omega, rfl, rfl⟩
    · have hb1 : (!ileB (vs.length : Int) (j : Nat)) = false := by rw [ileB_eq]; simp; omega
      repeat refine LS.seq ?_
      refine LS.region rfl ?_
      refine OS.pure rfl (fun _ => rfl) rfl ?_
      refine OS.pure rfl (fun _ => rfl) rfl ?_
      refine OS.read rfl (e_load 0 rfl rfl rfl rfl rfl) rfl ?_
      refine OS.pure rfl (e_len hv rfl rfl rfl rfl rfl) rfl ?_
      refine OS.pure rfl (e_is (fun _ => rfl) (congrArg Value.bool hb1)) rfl ?_
      refine OS.pure rfl (fun _ => rfl) rfl ?_
      refine OS.skip rfl rfl ?_
      refine OS.skip rfl rfl ?_
      refine OS.pure rfl (fun _ => rfl) rfl ?_
      refine OS.nil ?_
      repeat refine LS.seq ?_
      refine LS.cond rfl (fun hc => ?_) (fun hc => ?_)
      · cases hc
      refine LS.exit ?_
      exact ⟨acc, hlo, by omega, rfl, rfl⟩
  rintro a L' ⟨acc, hlo, hhi, rfl, rfl⟩
  repeat refine LS.seq ?_
  refine LS.region rfl ?_
  refine OS.pure rfl (fun _ => rfl) rfl ?_
  refine OS.pure rfl (fun _ => rfl) rfl ?_
  refine OS.pure rfl (fun _ => rfl) rfl ?_
  refine OS.nil ?_
  refine LS.ret ⟨_, fun _ _ => rfl, ?_⟩
  refine ⟨⟨_, rfl, fun hb => ?_⟩, _, rfl⟩
  have hb := nlt_of hb
  show ks.length + vs.length + kids.length ≤ 5000
  omega

theorem size0 (n : Nd) : (sizeN n = 0) ↔ mayN n = false := by
  unfold sizeN
  cases mayN n with
  | false => simp
  | true =>
    rw [if_pos rfl]
    have : 0 < (bodyN n).length := by unfold bodyN headN; simp
    constructor
    · intro h; omega
    · intro h; cases h
theorem finds_ct {L : RL} {n : Nd} {v1 v2 v3 : Value} {key : List UInt8} (h : NV L n v1 v2 v3) : CS Try.prog 8 [ndV n.leaf v1 v2 v3, txt key] L fun u L' => u = .bool true := by
  refine CS.mk (fn := Try.f8) rfl rfl rfl rfl ?_
  repeat refine LS.seq ?_
  refine LS.region rfl ?_
  refine OS.fresh rfl (e_new (fun _ => rfl) rfl) (fun _ => rfl) (fun rn => ?_)
  refine OS.pure rfl (fun _ => rfl) rfl ?_
  refine OS.nil ?_
  have h := h.cons (x := (rn, nrRow n.leaf v1 v2 v3))
  repeat refine LS.seq ?_
  refine LS.region rfl ?_
  refine OS.read rfl (e_load 0 rfl rfl rfl rfl rfl) rfl ?_
  refine OS.call noGo rfl (fun _ => rfl) ((large_ct h).mono ?_)
  rintro u L₁ ⟨⟨b, rfl, hb⟩, e₁⟩
  subst e₁
  cases b with
  | true =>
    refine ⟨_, rfl, ?_⟩
    refine OS.pure rfl (fun _ => rfl) rfl ?_
    refine OS.skip rfl rfl ?_
    refine OS.skip rfl rfl ?_
    refine OS.pure rfl (fun _ => rfl) rfl ?_
    refine OS.nil ?_
    repeat refine LS.seq ?_
    refine LS.cond rfl (fun hc => ?_) (fun hc => ?_)
    · repeat refine LS.seq ?_
      refine LS.region rfl ?_
      refine OS.call noGo rfl (fun _ => rfl) ((awake_ct).mono ?_)
      rintro u L₁ ⟨rfl, e₁⟩
      refine ⟨_, rfl, ?_⟩
      refine OS.pure rfl (fun _ => rfl) rfl ?_
      refine OS.nil ?_
      refine LS.ret ⟨_, fun _ _ => rfl, ?_⟩
      rfl
    · cases hc
  | false =>
    have hb := hb rfl
    refine ⟨_, rfl, ?_⟩
    refine OS.pure rfl (fun _ => rfl) rfl ?_
    refine OS.call noGo rfl (fun _ => rfl) ((awake_ct).mono ?_)
    rintro u L₁ ⟨rfl, e₁⟩
    subst e₁
    refine ⟨_, rfl, ?_⟩
    refine OS.pure rfl (fun _ => rfl) rfl ?_
    refine OS.pure rfl (fun _ => rfl) rfl ?_
    refine OS.nil ?_
    repeat refine LS.seq ?_
    refine LS.cond rfl (fun hc => ?_) (fun hc => ?_)
    · cases hc
    refine LS.skip ?_
    repeat refine LS.seq ?_
    refine LS.region rfl ?_
    refine OS.read rfl (e_load 0 rfl rfl rfl rfl rfl) rfl ?_
    refine OS.call noGo rfl (fun _ => rfl) ((given_ct h hb).mono ?_)
    rintro u L₁ ⟨Y, w1, w2, w3, rfl, rfl, hw⟩
    refine ⟨_, rfl, ?_⟩
    refine OS.call noGo rfl (fun _ => rfl) ((Size_ct hw (by omega)).mono ?_)
    rintro u L₁ ⟨rfl, e₁⟩
    subst e₁
    refine ⟨_, rfl, ?_⟩
    refine OS.sub Sub.suffix ?_
    have hz : ieqB ((sizeN n : Nat) : Int) (0 : Nat) = !mayN n := by
      rw [ieqN]
      cases hm : mayN n with
      | false => rw [decide_eq_true ((size0 n).2 hm)]; rfl
      | true => rw [decide_eq_false (fun h => by rw [(size0 n).1 h] at hm; cases hm)]; rfl
    refine OS.pure rfl (e_is (fun _ => rfl) (congrArg Value.bool hz)) rfl ?_
    refine OS.nil ?_
    cases hm : mayN n with
    | false =>
      repeat refine LS.seq ?_
      refine LS.cond rfl (fun hc => ?_) (fun hc => ?_)
      · repeat refine LS.seq ?_
        refine LS.region rfl ?_
        refine OS.pure rfl (fun _ => rfl) rfl ?_
        refine OS.nil ?_
        refine LS.ret ⟨_, fun _ _ => rfl, ?_⟩
        rfl
      · cases hc
    | true =>
      have hr := mayN_rise hm
      repeat refine LS.seq ?_
      refine LS.cond rfl (fun hc => ?_) (fun hc => ?_)
      · cases hc
      refine LS.skip ?_
      repeat refine LS.seq ?_
      refine LS.region rfl ?_
      refine OS.read rfl (e_load 0 rfl rfl rfl rfl rfl) rfl ?_
      refine OS.call noGo rfl (fun _ => rfl) ((given_ct h hb).mono ?_)
      rintro u L₁ ⟨Y, w1, w2, w3, rfl, rfl, hw⟩
      refine ⟨_, rfl, ?_⟩
      refine OS.pure rfl (fun _ => rfl) rfl ?_
      refine OS.call noGo rfl (fun _ => rfl) (((Find_ct (key := key) hw (by omega))).mono ?_)
      rintro u L₁ ⟨rfl, e₁⟩
      subst e₁
      have hf : findV n key = .tuple #[.int .i64 (belowN key n.ks : Nat), .bool (isN key n.ks)] := by unfold findV; rw [if_pos hm]
      rw [hf]
      refine ⟨_, rfl, ?_⟩
      refine OS.sub Sub.suffix ?_
      refine OS.pure rfl (fun _ => rfl) rfl ?_
      refine OS.pure rfl (fun _ => rfl) rfl ?_
      refine OS.pure rfl (fun _ => rfl) rfl ?_
      refine OS.pure rfl (fun _ => rfl) rfl ?_
      refine OS.pure rfl (fun _ => rfl) rfl ?_
      refine OS.nil ?_
      have hle := below_le key n.ks
      have b1 : (!ileB 0 (belowN key n.ks : Int)) = false := by rw [ileB_eq]; simp
      have b2 : (!ileB (belowN key n.ks : Int) (n.ks.length : Nat)) = false := by rw [ileB_eq]; simp; omega
      repeat refine LS.seq ?_
      refine LS.mid [1, 2, 5, 52] (fun a L' => L' = (rn, nrRow n.leaf v1 v2 v3) :: L ∧ a = [.chan none, txt key, .pointer (some ⟨rn, 0, none⟩), .chan none, .chan none, .int .i64 (belowN key n.ks : Nat), .chan none, .chan none, .chan none, .chan none, .chan none, .chan none, .chan none, .chan none, .chan none, .chan none, .chan none, .chan none, .chan none, .chan none, .chan none, .chan none, .chan none, .chan none, .chan none, .chan none, .chan none, .chan none, .chan none, .chan none, .chan none, .chan none, .chan none, .chan none, .chan none, .chan none, .chan none, .chan none, .chan none, .chan none, .chan none, .chan none, .chan none, .chan none, .chan none, .chan none, .chan none, .chan none, .chan none, .chan none, .chan none, .chan none, .bool false, .chan none, .chan none, .chan none, .chan none, .chan none, .chan none, .chan none, .chan none, .chan none, .chan none, .chan none, .chan none, .chan none, .chan none, .chan none, .chan none, .chan none, .chan none]) ?_ ?_
      · by_cases hlt : belowN key n.ks < n.ks.length
        · have b3 : (!ileB (n.ks.length : Int) (belowN key n.ks : Nat)) = true := by rw [ileB_eq]; simp; omega
          have hi : isN key n.ks = bytesEq n.ks[belowN key n.ks] key := by
            unfold isN
            rw [List.getElem?_eq_getElem hlt, beqT]
            simp
          have b4 : (isN key n.ks != bytesEq n.ks[belowN key n.ks] key) = false := by rw [hi]; simp
          repeat refine LS.seq ?_
          refine LS.region rfl ?_
          refine OS.pure rfl (fun _ => rfl) rfl ?_
          refine OS.pure rfl (e_is (fun _ => rfl) (congrArg Value.bool b1)) rfl ?_
          refine OS.pure rfl (fun _ => rfl) rfl ?_
          refine OS.pure rfl (fun _ => rfl) rfl ?_
          refine OS.pure rfl (fun _ => rfl) rfl ?_
          refine OS.read rfl (e_load 0 rfl rfl rfl rfl rfl) rfl ?_
          refine OS.pure rfl (e_len h.k rfl rfl rfl rfl rfl) rfl ?_
          refine OS.pure rfl (e_is (fun _ => rfl) (congrArg Value.bool b2)) rfl ?_
          refine OS.pure rfl (fun _ => rfl) rfl ?_
          refine OS.pure rfl (fun _ => rfl) rfl ?_
          refine OS.pure rfl (fun _ => rfl) rfl ?_
          refine OS.pure rfl (fun _ => rfl) rfl ?_
          refine OS.pure rfl (fun _ => rfl) rfl ?_
          refine OS.read rfl (e_load 0 rfl rfl rfl rfl rfl) rfl ?_
          refine OS.pure rfl (e_len h.k rfl rfl rfl rfl rfl) rfl ?_
          refine OS.pure rfl (e_is (fun _ => rfl) (congrArg Value.bool b3)) rfl ?_
          refine OS.pure rfl (fun _ => rfl) rfl ?_
          refine OS.pure rfl (fun _ => rfl) rfl ?_
          refine OS.read rfl (e_load 0 rfl rfl rfl rfl rfl) rfl ?_
          refine OS.pure rfl (fun _ => rfl) rfl ?_
          refine OS.at1 (j := belowN key n.ks) h.k (tx_at hlt) rfl rfl rfl rfl rfl rfl (fun r0 o0 row0 cs0 m0 c0 g0 => ?_)
          refine ⟨_, rfl, ?_⟩
          refine OS.read rfl (e_loadm m0 c0 rfl rfl (part_one rfl g0)) rfl ?_
          refine OS.pure rfl (fun _ => rfl) rfl ?_
          refine OS.pure rfl (fun _ => rfl) rfl ?_
          refine OS.pure rfl (fun _ => rfl) rfl ?_
          refine OS.pure rfl (e_is (fun _ => rfl) (congrArg Value.bool b4)) rfl ?_
          refine OS.pure rfl (fun _ => rfl) rfl ?_
          refine OS.nil ?_
          exact ⟨rfl, rfl⟩
        · have b3 : (!ileB (n.ks.length : Int) (belowN key n.ks : Nat)) = false := by rw [ileB_eq]; simp; omega
          have hi : isN key n.ks = false := by unfold isN; rw [List.getElem?_eq_none (by omega)]; simp
          have b4 : (isN key n.ks != false) = false := by rw [hi]; rfl
          repeat refine LS.seq ?_
          refine LS.region rfl ?_
          refine OS.pure rfl (fun _ => rfl) rfl ?_
          refine OS.pure rfl (e_is (fun _ => rfl) (congrArg Value.bool b1)) rfl ?_
          refine OS.pure rfl (fun _ => rfl) rfl ?_
          refine OS.pure rfl (fun _ => rfl) rfl ?_
          refine OS.pure rfl (fun _ => rfl) rfl ?_
          refine OS.read rfl (e_load 0 rfl rfl rfl rfl rfl) rfl ?_
          refine OS.pure rfl (e_len h.k rfl rfl rfl rfl rfl) rfl ?_
          refine OS.pure rfl (e_is (fun _ => rfl) (congrArg Value.bool b2)) rfl ?_
          refine OS.pure rfl (fun _ => rfl) rfl ?_
          refine OS.pure rfl (fun _ => rfl) rfl ?_
          refine OS.pure rfl (fun _ => rfl) rfl ?_
          refine OS.pure rfl (fun _ => rfl) rfl ?_
          refine OS.pure rfl (fun _ => rfl) rfl ?_
          refine OS.read rfl (e_load 0 rfl rfl rfl rfl rfl) rfl ?_
          refine OS.pure rfl (e_len h.k rfl rfl rfl rfl rfl) rfl ?_
          refine OS.pure rfl (e_is (fun _ => rfl) (congrArg Value.bool b3)) rfl ?_
          refine OS.pure rfl (fun _ => rfl) rfl ?_
          refine OS.skip rfl rfl ?_
          refine OS.skip rfl rfl ?_
          refine OS.skip rfl rfl ?_
          refine OS.skip rfl rfl ?_
          refine OS.skip rfl rfl ?_
          refine OS.skip rfl rfl ?_
          refine OS.skip rfl rfl ?_
          refine OS.pure rfl (fun _ => rfl) rfl ?_
          refine OS.pure rfl (e_is (fun _ => rfl) (congrArg Value.bool b4)) rfl ?_
          refine OS.pure rfl (fun _ => rfl) rfl ?_
          refine OS.nil ?_
          exact ⟨rfl, rfl⟩
      rintro a L' ⟨rfl, rfl⟩
      repeat refine LS.seq ?_
      refine LS.cond rfl (fun hc => ?_) (fun hc => ?_)
      · cases hc
      refine LS.skip ?_
      repeat refine LS.seq ?_
      refine LS.region rfl ?_
      refine OS.pure rfl (fun _ => rfl) rfl ?_
      refine OS.nil ?_
      repeat refine LS.seq ?_
      refine LS.block ?_
      refine LS.loopJ [1, 2, 5, 7] (fun q a L' => ∃ j : Nat, q = n.ks.length - j ∧ j ≤ n.ks.length ∧ L' = (rn, nrRow n.leaf v1 v2 v3) :: L ∧ a = [.chan none, txt key, .pointer (some ⟨rn, 0, none⟩), .chan none, .chan none, .int .i64 (belowN key n.ks : Nat), .chan none, .int .i64 (j : Nat), .chan none, .chan none, .chan none, .chan none, .chan none, .chan none, .chan none, .chan none, .chan none, .chan none, .chan none, .chan none, .chan none, .chan none, .chan none, .chan none, .chan none, .chan none, .chan none, .chan none, .chan none, .chan none, .chan none, .chan none, .chan none, .chan none, .chan none, .chan none, .chan none, .chan none, .chan none, .chan none, .chan none, .chan none, .chan none, .chan none, .chan none, .chan none, .chan none, .chan none, .chan none, .chan none, .chan none, .chan none, .chan none, .chan none, .chan none, .chan none, .chan none, .chan none, .chan none, .chan none, .chan none, .chan none, .chan none, .chan none, .chan none, .chan none, .chan none, .chan none, .chan none, .chan none, .chan none]) (n := n.ks.length) rfl ⟨0, rfl, by omega, rfl, rfl⟩ ?_
      rintro q a L' ⟨j, rfl, hj, rfl, rfl⟩
      have hkn := h.kn
      repeat refine LS.seq ?_
      refine LS.region rfl ?_
      refine OS.pure rfl (fun _ => rfl) rfl ?_
      refine OS.pure rfl (fun _ => rfl) rfl ?_
      refine OS.read rfl (e_load 0 rfl rfl rfl rfl rfl) rfl ?_
      refine OS.pure rfl (e_len h.k rfl rfl rfl rfl rfl) rfl ?_
      refine OS.pure rfl (fun _ => rfl) rfl ?_
      refine OS.nil ?_
      repeat refine LS.seq ?_
      refine LS.cond rfl (fun hc => ?_) (fun hc => ?_)
      · have hc : (j : Int) < n.ks.length := lt_of hc
        have hjk : j < n.ks.length := by omega
        have hb1 : (bytesLt n.ks[j] key != !ileB (belowN key n.ks : Int) (j : Nat)) = false := by
          rw [below_iff (key := key) hr (List.getElem?_eq_getElem hjk), ileB_eq]
          by_cases h : j < belowN key n.ks
          · have : ¬ ((belowN key n.ks : Nat) : Int) ≤ (j : Int) := by omega
            simp [h, this]
          · have : ((belowN key n.ks : Nat) : Int) ≤ (j : Int) := by omega
            simp [h, this]
        refine LS.skip ?_
        repeat refine LS.seq ?_
        refine LS.block ?_
        repeat refine LS.seq ?_
        refine LS.region rfl ?_
        refine OS.pure rfl (fun _ => rfl) rfl ?_
        refine OS.read rfl (e_load 0 rfl rfl rfl rfl rfl) rfl ?_
        refine OS.pure rfl (fun _ => rfl) rfl ?_
        refine OS.at1 (j := j) h.k (tx_at hjk) rfl rfl rfl rfl rfl rfl (fun r0 o0 row0 cs0 m0 c0 g0 => ?_)
        refine ⟨_, rfl, ?_⟩
        refine OS.read rfl (e_loadm m0 c0 rfl rfl (part_one rfl g0)) rfl ?_
        refine OS.pure rfl (fun _ => rfl) rfl ?_
        refine OS.pure rfl (fun _ => rfl) rfl ?_
        refine OS.pure rfl (fun _ => rfl) rfl ?_
        refine OS.pure rfl (fun _ => rfl) rfl ?_
        refine OS.pure rfl (fun _ => rfl) rfl ?_
        refine OS.pure rfl (e_is (fun _ => rfl) (congrArg Value.bool hb1)) rfl ?_
        refine OS.nil ?_
        repeat refine LS.seq ?_
        refine LS.cond rfl (fun hc => ?_) (fun hc => ?_)
        · cases hc
        refine LS.skip ?_
        repeat refine LS.seq ?_
        refine LS.region rfl ?_
        refine OS.pure rfl (fun _ => rfl) rfl ?_
        refine OS.pure rfl (e_add (m := j) (n := 1) rfl rfl rfl (in_i64 (by omega) (by omega))) rfl ?_
        refine OS.pure rfl (fun _ => rfl) rfl ?_
        refine OS.nil ?_
        exact ⟨n.ks.length - (j + 1), by omega, j + 1, rfl, by omega, rfl, rfl⟩
      · refine LS.exit ?_
        repeat refine LS.seq ?_
        refine LS.region rfl ?_
        refine OS.pure rfl (fun _ => rfl) rfl ?_
        refine OS.nil ?_
        refine LS.ret ⟨_, fun _ _ => rfl, ?_⟩
        rfl
end Go.Proofs.Ytdffhllecojgcaa
