/- Layer 6: NodeRoom's law. -/
import Derived.Test.YtdffhllecojgcaaNv
import Derived.Test.YtdffhllecojgcaaAmK
namespace Go.Proofs.Ytdffhllecojgcaa
open Go.Am
open Go.Proofs.Ytdffhllecojgcaa.T
set_option linter.unusedVariables false
set_option maxRecDepth 20000

def uns (z : Int) : Nat := (z % 18446744073709551616).toNat
theorem uns_eq (z : Int) : wrapB .u64 z = (uns z : Nat) := by
  rw [wrapB_eq, Am.wrap_u64]; unfold uns; omega
theorem uns_lt (z : Int) : uns z < 18446744073709551616 := by unfold uns; omega
theorem e_uns {P : Program} {a : Slots} {o : Oper} {src dst : TypeId} {x : Operand} {n : Int} (ho : o.op = .convert src dst x) (hx : aev a x = some (.int .i64 n)) (hs : P.underlying src = some (.int .i64)) (hd : P.underlying dst = some (.int .u64)) : ∀ h, opB P a o h = some (.val (.int .u64 (uns n : Nat)) h) := by
  intro h
  simp only [opB, ho, hx, convB, hs, hd, uns_eq, ret2]
/-- Small, and so it fits. -/
def smallN (n : Nd) : Bool := (n.leaf && decide (n.ks.length ≤ 2)) || (!n.leaf && decide (n.ks.length ≤ 6))
theorem small_fits {n : Nd} (h : mayN n = true) (hs : smallN n = true) : fitsN n = true := by
  refine room_fits h ?_
  unfold smallN at hs
  simpa using hs
theorem fits_may {n : Nd} (h : fitsN n = true) : mayN n = true := by unfold fitsN at h; simp at h; exact h.1
theorem room_law {L : RL} {n : Nd} {v1 v2 v3 : Value} {i : Int} (h : NV L n v1 v2 v3) : CS Try.prog 7 [ndV n.leaf v1 v2 v3, .int .i64 i] L fun u L' => u = .bool true := by
  refine CS.mk (fn := Try.f7) rfl rfl rfl rfl ?_
  repeat refine LS.seq ?_
  refine LS.region rfl ?_
  refine OS.fresh rfl (e_new (fun _ => rfl) rfl) (fun _ => rfl) (fun rn => ?_)
  refine OS.pure rfl (fun _ => rfl) rfl ?_
  refine OS.nil ?_
  have h := h.cons (x := (rn, nrRow n.leaf v1 v2 v3))
  repeat refine LS.seq ?_
  refine LS.region rfl ?_
  refine OS.read rfl (e_load 0 rfl rfl rfl rfl rfl) rfl ?_
  refine OS.call noGo rfl (fun _ => rfl) ((large_ct h).mono ?_)
  rintro u L₁ ⟨⟨b, rfl, hb⟩, e₁⟩
  subst e₁
  cases b with
  | true =>
    refine ⟨_, rfl, ?_⟩
    refine OS.pure rfl (fun _ => rfl) rfl ?_
    refine OS.skip rfl rfl ?_
    refine OS.skip rfl rfl ?_
    refine OS.pure rfl (fun _ => rfl) rfl ?_
    refine OS.nil ?_
    repeat refine LS.seq ?_
    refine LS.cond rfl (fun hc => ?_) (fun hc => ?_)
    · repeat refine LS.seq ?_
      refine LS.region rfl ?_
      refine OS.call noGo rfl (fun _ => rfl) ((awake_ct).mono ?_)
      rintro u L₁ ⟨rfl, e₁⟩
      refine ⟨_, rfl, ?_⟩
      refine OS.pure rfl (fun _ => rfl) rfl ?_
      refine OS.nil ?_
      refine LS.ret ⟨_, fun _ _ => rfl, ?_⟩
      rfl
    · cases hc
  | false =>
    have hb := hb rfl
    refine ⟨_, rfl, ?_⟩
    refine OS.pure rfl (fun _ => rfl) rfl ?_
    refine OS.call noGo rfl (fun _ => rfl) ((awake_ct).mono ?_)
    rintro u L₁ ⟨rfl, e₁⟩
    subst e₁
    refine ⟨_, rfl, ?_⟩
    refine OS.pure rfl (fun _ => rfl) rfl ?_
    refine OS.pure rfl (fun _ => rfl) rfl ?_
    refine OS.nil ?_
    repeat refine LS.seq ?_
    refine LS.cond rfl (fun hc => ?_) (fun hc => ?_)
    · cases hc
    refine LS.skip ?_
    repeat refine LS.seq ?_
    refine LS.region rfl ?_
    refine OS.read rfl (e_load 0 rfl rfl rfl rfl rfl) rfl ?_
    refine OS.call noGo rfl (fun _ => rfl) ((given_ct h hb).mono ?_)
    rintro u L₁ ⟨Y, w1, w2, w3, rfl, rfl, hw⟩
    refine ⟨_, rfl, ?_⟩
    refine OS.call noGo rfl (fun _ => rfl) ((Size_ct hw (by omega)).mono ?_)
    rintro u L₁ ⟨rfl, e₁⟩
    subst e₁
    refine ⟨_, rfl, ?_⟩
    refine OS.sub Sub.suffix ?_
    have hz : (!ileB ((sizeN n : Nat) : Int) 0) = mayN n := by
      rw [ileB_eq]
      cases hm : mayN n with
      | false => rw [(size0 n).2 hm]; rfl
      | true =>
        have : sizeN n ≠ 0 := fun h => by rw [(size0 n).1 h] at hm; cases hm
        have : ¬ ((sizeN n : Nat) : Int) ≤ 0 := by omega
        simp; omega
    refine OS.pure rfl (e_is (fun _ => rfl) (congrArg Value.bool hz)) rfl ?_
    refine OS.pure rfl (fun _ => rfl) rfl ?_
    refine OS.nil ?_
    repeat refine LS.seq ?_
    refine LS.mid [1, 2, 45] (fun a L' => L' = (rn, nrRow n.leaf v1 v2 v3) :: L ∧ a = [.chan none, .int .i64 i, .pointer (some ⟨rn, 0, none⟩), .chan none, .chan none, .chan none, .chan none, .chan none, .chan none, .chan none, .chan none, .chan none, .chan none, .chan none, .chan none, .chan none, .chan none, .chan none, .chan none, .chan none, .chan none, .chan none, .chan none, .chan none, .chan none, .chan none, .chan none, .chan none, .chan none, .chan none, .chan none, .chan none, .chan none, .chan none, .chan none, .chan none, .chan none, .chan none, .chan none, .chan none, .chan none, .chan none, .chan none, .chan none, .chan none, .bool false, .chan none, .chan none, .chan none, .chan none, .chan none, .chan none, .chan none, .chan none, .chan none, .chan none, .chan none, .chan none, .chan none, .chan none, .chan none, .chan none, .chan none, .chan none, .chan none, .chan none, .chan none, .chan none, .chan none, .chan none, .chan none, .chan none, .chan none, .chan none, .chan none, .chan none, .chan none, .chan none]) ?_ ?_
    · clear hw
      have hgv := given_ct h hb
      have hft : ∀ (Y : RL) (w1 w2 w3 : Value), NV (Y ++ (rn, nrRow n.leaf v1 v2 v3) :: L) n w1 w2 w3 → fitsN n = true → CS Try.prog 18 [ndV n.leaf w1 w2 w3] (Y ++ (rn, nrRow n.leaf v1 v2 v3) :: L) fun u L' => u = .bool true ∧ L' = Y ++ (rn, nrRow n.leaf v1 v2 v3) :: L := fun Y w1 w2 w3 hw hf => by
        have := Fits_ct hw (by omega)
        rw [hf] at this
        exact this
      have hks := h.k
      obtain ⟨lf, hlf⟩ : ∃ lf, n.leaf = lf := ⟨_, rfl⟩
      rw [hlf] at hgv hft hks ⊢
      cases hm : mayN n with
      | false =>
        repeat refine LS.seq ?_
        refine LS.region rfl ?_
        refine OS.pure rfl (fun _ => rfl) rfl ?_
        refine OS.pure rfl (fun _ => rfl) rfl ?_
        refine OS.skip rfl rfl ?_
        refine OS.skip rfl rfl ?_
        refine OS.skip rfl rfl ?_
        refine OS.skip rfl rfl ?_
        refine OS.skip rfl rfl ?_
        refine OS.skip rfl rfl ?_
        refine OS.skip rfl rfl ?_
        refine OS.skip rfl rfl ?_
        refine OS.skip rfl rfl ?_
        refine OS.skip rfl rfl ?_
        refine OS.skip rfl rfl ?_
        refine OS.skip rfl rfl ?_
        refine OS.skip rfl rfl ?_
        refine OS.skip rfl rfl ?_
        refine OS.skip rfl rfl ?_
        refine OS.skip rfl rfl ?_
        refine OS.skip rfl rfl ?_
        refine OS.skip rfl rfl ?_
        refine OS.skip rfl rfl ?_
        refine OS.pure rfl (fun _ => rfl) rfl ?_
        refine OS.pure rfl (fun _ => rfl) rfl ?_
        refine OS.skip rfl rfl ?_
        refine OS.skip rfl rfl ?_
        refine OS.skip rfl rfl ?_
        refine OS.skip rfl rfl ?_
        refine OS.pure rfl (fun _ => rfl) rfl ?_
        refine OS.nil ?_
        exact ⟨rfl, rfl⟩
      | true =>
      cases lf with
      | true =>
      by_cases h2 : n.ks.length ≤ 2
      · have hl2 : ileB (n.ks.length : Int) 2 = true := by rw [ileB_eq]; simp; omega
        repeat refine LS.seq ?_
        refine LS.region rfl ?_
        refine OS.pure rfl (fun _ => rfl) rfl ?_
        refine OS.pure rfl (fun _ => rfl) rfl ?_
        refine OS.pure rfl (fun _ => rfl) rfl ?_
        refine OS.read rfl (e_load 0 rfl rfl rfl rfl rfl) rfl ?_
        refine OS.pure rfl (fun _ => rfl) rfl ?_
        refine OS.pure rfl (fun _ => rfl) rfl ?_
        refine OS.read rfl (e_load 0 rfl rfl rfl rfl rfl) rfl ?_
        refine OS.pure rfl (e_len hks rfl rfl rfl rfl rfl) rfl ?_
        refine OS.pure rfl (e_is (fun _ => rfl) (congrArg Value.bool hl2)) rfl ?_
        refine OS.pure rfl (fun _ => rfl) rfl ?_
        refine OS.pure rfl (fun _ => rfl) rfl ?_
        refine OS.skip rfl rfl ?_
        refine OS.skip rfl rfl ?_
        refine OS.skip rfl rfl ?_
        refine OS.skip rfl rfl ?_
        refine OS.skip rfl rfl ?_
        refine OS.skip rfl rfl ?_
        refine OS.skip rfl rfl ?_
        refine OS.skip rfl rfl ?_
        refine OS.skip rfl rfl ?_
        refine OS.pure rfl (fun _ => rfl) rfl ?_
        refine OS.pure rfl (fun _ => rfl) rfl ?_
        refine OS.pure rfl (fun _ => rfl) rfl ?_
        refine OS.read rfl (e_load 0 rfl rfl rfl rfl rfl) rfl ?_
        have hs : smallN n = true := by unfold smallN; rw [hlf]; simp; omega
        refine OS.call noGo rfl (fun _ => rfl) (hgv.mono ?_)
        rintro u L₁ ⟨Y, w1, w2, w3, rfl, rfl, hw⟩
        refine ⟨_, rfl, ?_⟩
        refine OS.call noGo rfl (fun _ => rfl) ((hft Y w1 w2 w3 hw (small_fits hm hs)).mono ?_)
        rintro u L₁ ⟨rfl, e₁⟩
        subst e₁
        refine ⟨_, rfl, ?_⟩
        refine OS.sub Sub.suffix ?_
        refine OS.pure rfl (fun _ => rfl) rfl ?_
        refine OS.pure rfl (fun _ => rfl) rfl ?_
        refine OS.nil ?_
        exact ⟨rfl, rfl⟩
      · have hl2 : ileB (n.ks.length : Int) 2 = false := by rw [ileB_eq]; simp; omega
        repeat refine LS.seq ?_
        refine LS.region rfl ?_
        refine OS.pure rfl (fun _ => rfl) rfl ?_
        refine OS.pure rfl (fun _ => rfl) rfl ?_
        refine OS.pure rfl (fun _ => rfl) rfl ?_
        refine OS.read rfl (e_load 0 rfl rfl rfl rfl rfl) rfl ?_
        refine OS.pure rfl (fun _ => rfl) rfl ?_
        refine OS.pure rfl (fun _ => rfl) rfl ?_
        refine OS.read rfl (e_load 0 rfl rfl rfl rfl rfl) rfl ?_
        refine OS.pure rfl (e_len hks rfl rfl rfl rfl rfl) rfl ?_
        refine OS.pure rfl (e_is (fun _ => rfl) (congrArg Value.bool hl2)) rfl ?_
        refine OS.pure rfl (fun _ => rfl) rfl ?_
        refine OS.pure rfl (fun _ => rfl) rfl ?_
        refine OS.pure rfl (fun _ => rfl) rfl ?_
        refine OS.read rfl (e_load 0 rfl rfl rfl rfl rfl) rfl ?_
        refine OS.pure rfl (fun _ => rfl) rfl ?_
        refine OS.pure rfl (fun _ => rfl) rfl ?_
        refine OS.skip rfl rfl ?_
        refine OS.skip rfl rfl ?_
        refine OS.skip rfl rfl ?_
        refine OS.skip rfl rfl ?_
        refine OS.pure rfl (fun _ => rfl) rfl ?_
        refine OS.pure rfl (fun _ => rfl) rfl ?_
        refine OS.pure rfl (fun _ => rfl) rfl ?_
        refine OS.pure rfl (fun _ => rfl) rfl ?_
        refine OS.skip rfl rfl ?_
        refine OS.skip rfl rfl ?_
        refine OS.skip rfl rfl ?_
        refine OS.skip rfl rfl ?_
        refine OS.pure rfl (fun _ => rfl) rfl ?_
        refine OS.nil ?_
        exact ⟨rfl, rfl⟩
      | false =>
      by_cases h6 : n.ks.length ≤ 6
      · have hl6 : ileB (n.ks.length : Int) 6 = true := by rw [ileB_eq]; simp; omega
        repeat refine LS.seq ?_
        refine LS.region rfl ?_
        refine OS.pure rfl (fun _ => rfl) rfl ?_
        refine OS.pure rfl (fun _ => rfl) rfl ?_
        refine OS.pure rfl (fun _ => rfl) rfl ?_
        refine OS.read rfl (e_load 0 rfl rfl rfl rfl rfl) rfl ?_
        refine OS.pure rfl (fun _ => rfl) rfl ?_
        refine OS.skip rfl rfl ?_
        refine OS.skip rfl rfl ?_
        refine OS.skip rfl rfl ?_
        refine OS.skip rfl rfl ?_
        refine OS.pure rfl (fun _ => rfl) rfl ?_
        refine OS.pure rfl (fun _ => rfl) rfl ?_
        refine OS.pure rfl (fun _ => rfl) rfl ?_
        refine OS.read rfl (e_load 0 rfl rfl rfl rfl rfl) rfl ?_
        refine OS.pure rfl (fun _ => rfl) rfl ?_
        refine OS.pure rfl (fun _ => rfl) rfl ?_
        refine OS.pure rfl (fun _ => rfl) rfl ?_
        refine OS.read rfl (e_load 0 rfl rfl rfl rfl rfl) rfl ?_
        refine OS.pure rfl (e_len hks rfl rfl rfl rfl rfl) rfl ?_
        refine OS.pure rfl (e_is (fun _ => rfl) (congrArg Value.bool hl6)) rfl ?_
        refine OS.pure rfl (fun _ => rfl) rfl ?_
        refine OS.pure rfl (fun _ => rfl) rfl ?_
        refine OS.pure rfl (fun _ => rfl) rfl ?_
        refine OS.pure rfl (fun _ => rfl) rfl ?_
        refine OS.read rfl (e_load 0 rfl rfl rfl rfl rfl) rfl ?_
        have hs : smallN n = true := by unfold smallN; rw [hlf]; simp; omega
        refine OS.call noGo rfl (fun _ => rfl) (hgv.mono ?_)
        rintro u L₁ ⟨Y, w1, w2, w3, rfl, rfl, hw⟩
        refine ⟨_, rfl, ?_⟩
        refine OS.call noGo rfl (fun _ => rfl) ((hft Y w1 w2 w3 hw (small_fits hm hs)).mono ?_)
        rintro u L₁ ⟨rfl, e₁⟩
        subst e₁
        refine ⟨_, rfl, ?_⟩
        refine OS.sub Sub.suffix ?_
        refine OS.pure rfl (fun _ => rfl) rfl ?_
        refine OS.pure rfl (fun _ => rfl) rfl ?_
        refine OS.nil ?_
        exact ⟨rfl, rfl⟩
      · have hl6 : ileB (n.ks.length : Int) 6 = false := by rw [ileB_eq]; simp; omega
        repeat refine LS.seq ?_
        refine LS.region rfl ?_
        refine OS.pure rfl (fun _ => rfl) rfl ?_
        refine OS.pure rfl (fun _ => rfl) rfl ?_
        refine OS.pure rfl (fun _ => rfl) rfl ?_
        refine OS.read rfl (e_load 0 rfl rfl rfl rfl rfl) rfl ?_
        refine OS.pure rfl (fun _ => rfl) rfl ?_
        refine OS.skip rfl rfl ?_
        refine OS.skip rfl rfl ?_
        refine OS.skip rfl rfl ?_
        refine OS.skip rfl rfl ?_
        refine OS.pure rfl (fun _ => rfl) rfl ?_
        refine OS.pure rfl (fun _ => rfl) rfl ?_
        refine OS.pure rfl (fun _ => rfl) rfl ?_
        refine OS.read rfl (e_load 0 rfl rfl rfl rfl rfl) rfl ?_
        refine OS.pure rfl (fun _ => rfl) rfl ?_
        refine OS.pure rfl (fun _ => rfl) rfl ?_
        refine OS.pure rfl (fun _ => rfl) rfl ?_
        refine OS.read rfl (e_load 0 rfl rfl rfl rfl rfl) rfl ?_
        refine OS.pure rfl (e_len hks rfl rfl rfl rfl rfl) rfl ?_
        refine OS.pure rfl (e_is (fun _ => rfl) (congrArg Value.bool hl6)) rfl ?_
        refine OS.pure rfl (fun _ => rfl) rfl ?_
        refine OS.pure rfl (fun _ => rfl) rfl ?_
        refine OS.pure rfl (fun _ => rfl) rfl ?_
        refine OS.pure rfl (fun _ => rfl) rfl ?_
        refine OS.skip rfl rfl ?_
        refine OS.skip rfl rfl ?_
        refine OS.skip rfl rfl ?_
        refine OS.skip rfl rfl ?_
        refine OS.pure rfl (fun _ => rfl) rfl ?_
        refine OS.nil ?_
        exact ⟨rfl, rfl⟩
    rintro a L' ⟨rfl, rfl⟩
    repeat refine LS.seq ?_
    refine LS.cond rfl (fun hc => ?_) (fun hc => ?_)
    · cases hc
    refine LS.skip ?_
    repeat refine LS.seq ?_
    refine LS.region rfl ?_
    refine OS.read rfl (e_load 0 rfl rfl rfl rfl rfl) rfl ?_
    refine OS.call noGo rfl (fun _ => rfl) ((given_ct h hb).mono ?_)
    rintro u L₁ ⟨Y, w1, w2, w3, rfl, rfl, hw⟩
    refine ⟨_, rfl, ?_⟩
    refine OS.call noGo rfl (fun _ => rfl) ((Fits_ct hw (by omega)).mono ?_)
    rintro u L₁ ⟨rfl, e₁⟩
    subst e₁
    refine ⟨_, rfl, ?_⟩
    refine OS.sub Sub.suffix ?_
    have hmn : (rn, nrRow n.leaf v1 v2 v3) ∈ ((rn, nrRow n.leaf v1 v2 v3) :: L : RL) := List.mem_cons_self ..
    cases hf : fitsN n with
    | false =>
      refine OS.pure rfl (fun _ => rfl) rfl ?_
      refine OS.pure rfl (fun _ => rfl) rfl ?_
      refine OS.skip rfl rfl ?_
      refine OS.skip rfl rfl ?_
      refine OS.skip rfl rfl ?_
      refine OS.skip rfl rfl ?_
      refine OS.pure rfl (fun _ => rfl) rfl ?_
      refine OS.nil ?_
      repeat refine LS.seq ?_
      refine LS.cond rfl (fun hc => ?_) (fun hc => ?_)
      · repeat refine LS.seq ?_
        refine LS.region rfl ?_
        refine OS.pure rfl (fun _ => rfl) rfl ?_
        refine OS.nil ?_
        refine LS.ret ⟨_, fun _ _ => rfl, ?_⟩
        rfl
      · cases hc
    | true =>
      by_cases h0 : n.ks.length = 0
      · have hk0 : ieqB (n.ks.length : Int) (0 : Nat) = true := ieqN.trans (decide_eq_true h0)
        refine OS.pure rfl (fun _ => rfl) rfl ?_
        refine OS.pure rfl (fun _ => rfl) rfl ?_
        refine OS.pure rfl (fun _ => rfl) rfl ?_
        refine OS.read rfl (e_load 0 rfl rfl rfl rfl rfl) rfl ?_
        refine OS.pure rfl (e_len h.k rfl rfl rfl rfl rfl) rfl ?_
        refine OS.pure rfl (e_is (fun _ => rfl) (congrArg Value.bool hk0)) rfl ?_
        refine OS.pure rfl (fun _ => rfl) rfl ?_
        refine OS.nil ?_
        repeat refine LS.seq ?_
        refine LS.cond rfl (fun hc => ?_) (fun hc => ?_)
        · repeat refine LS.seq ?_
          refine LS.region rfl ?_
          refine OS.pure rfl (fun _ => rfl) rfl ?_
          refine OS.nil ?_
          refine LS.ret ⟨_, fun _ _ => rfl, ?_⟩
          rfl
        · cases hc
      have hk0 : ieqB (n.ks.length : Int) (0 : Nat) = false := ieqN.trans (decide_eq_false h0)
      refine OS.pure rfl (fun _ => rfl) rfl ?_
      refine OS.pure rfl (fun _ => rfl) rfl ?_
      refine OS.pure rfl (fun _ => rfl) rfl ?_
      refine OS.read rfl (e_load 0 rfl rfl rfl rfl rfl) rfl ?_
      refine OS.pure rfl (e_len h.k rfl rfl rfl rfl rfl) rfl ?_
      refine OS.pure rfl (e_is (fun _ => rfl) (congrArg Value.bool hk0)) rfl ?_
      refine OS.pure rfl (fun _ => rfl) rfl ?_
      refine OS.nil ?_
      repeat refine LS.seq ?_
      refine LS.cond rfl (fun hc => ?_) (fun hc => ?_)
      · cases hc
      refine LS.skip ?_
      obtain ⟨q, hq⟩ : ∃ q, uns i % n.ks.length = q := ⟨_, rfl⟩
      have hqlt : q < n.ks.length := by rw [← hq]; exact Nat.mod_lt _ (by omega)
      have hul := uns_lt i
      repeat refine LS.seq ?_
      refine LS.mid [2, 6] (fun a L' => ∃ r6 w1 w2 w3 Y, L' = (r6, nrRow n.leaf w1 w2 w3) :: (Y ++ (rn, nrRow n.leaf v1 v2 v3) :: L) ∧ NV L' (withoutN n q) w1 w2 w3 ∧ a = [.chan none, .chan none, .pointer (some ⟨rn, 0, none⟩), .chan none, .chan none, .chan none, .pointer (some ⟨r6, 0, none⟩), .chan none, .chan none, .chan none, .chan none, .chan none, .chan none, .chan none, .chan none, .chan none, .chan none, .chan none, .chan none, .chan none, .chan none, .chan none, .chan none, .chan none, .chan none, .chan none, .chan none, .chan none, .chan none, .chan none, .chan none, .chan none, .chan none, .chan none, .chan none, .chan none, .chan none, .chan none, .chan none, .chan none, .chan none, .chan none, .chan none, .chan none, .chan none, .chan none, .chan none, .chan none, .chan none, .chan none, .chan none, .chan none, .chan none, .chan none, .chan none, .chan none, .chan none, .chan none, .chan none, .chan none, .chan none, .chan none, .chan none, .chan none, .chan none, .chan none, .chan none, .chan none, .chan none, .chan none, .chan none, .chan none, .chan none, .chan none, .chan none, .chan none, .chan none, .chan none]) ?_ ?_
      · refine LS.forked noGo mixed 12 rfl rfl (by kernel_rfl) ?_
        refine OGS.read 0 (by kernel_rfl) rfl rfl (e_load 0 rfl rfl rfl rfl rfl) rfl ?_
        refine OGS.pure 1 (by kernel_rfl) rfl rfl (fun _ => rfl) rfl ?_
        refine OGS.pure 2 (by kernel_rfl) rfl rfl (e_uns rfl rfl rfl rfl) rfl ?_
        refine OGS.pure 3 (by kernel_rfl) rfl rfl (fun _ => rfl) rfl ?_
        refine OGS.read 4 (by kernel_rfl) rfl rfl (e_load 0 rfl rfl rfl rfl rfl) rfl ?_
        refine OGS.pure 5 (by kernel_rfl) rfl rfl (e_len h.k rfl rfl rfl rfl rfl) rfl ?_
        refine OGS.pure 6 (by kernel_rfl) rfl rfl (e_conv (n := n.ks.length) rfl rfl rfl rfl (in_u64 (by omega) (by omega))) rfl ?_
        refine OGS.pure 7 (by kernel_rfl) rfl rfl (e_rem (n := n.ks.length) rfl rfl rfl h0) rfl ?_
        rw [hq]
        refine OGS.pure 8 (by kernel_rfl) rfl rfl (e_conv (n := q) rfl rfl rfl rfl (in_i64 (by omega) (by omega))) rfl ?_
        refine OGS.turn2 9 10 (by kernel_rfl) (by kernel_rfl) ?_ ?_
        · refine OT.call rfl rfl (fun _ => rfl) ((Without_ct (i := q) h hb (by omega)).mono ?_)
          rintro u L₁ ⟨Y, w1, w2, w3, rfl, rfl, hw⟩
          refine ⟨_, rfl, Keep.gone rfl (Keep.gone rfl Keep.nil), ?_⟩
          have hm2 : ∀ x : Nat × ARow, (rn, nrRow n.leaf v1 v2 v3) ∈ (x :: (Y ++ (rn, nrRow n.leaf v1 v2 v3) :: L) : RL) := fun x => by simp
          refine OGS.turn1 10 (by kernel_rfl) (by kernel_rfl) (OT.fresh rfl rfl (e_new (fun _ => rfl) rfl) (fun _ => rfl) (fun _ => Keep.cons rfl (e_loadm (hm2 _) rfl rfl rfl rfl) (Keep.cons rfl (e_loadm (hm2 _) rfl rfl rfl rfl) Keep.nil)) (fun r6 => ?_))
          refine OGS.turn1 11 (by kernel_rfl) (by kernel_rfl) (OT.write rfl rfl (e_store 0 (n := 4) rfl rfl rfl rfl rfl (nd_one (isSl hw.k) (isSl hw.v) (isSl hw.z)) rfl rfl) rfl (Keep.gone rfl (Keep.gone rfl Keep.nil)) ?_)
          exact OGS.nil (by kernel_rfl) ⟨r6, w1, w2, w3, Y, rfl, hw.mono fun p hp => List.mem_cons_of_mem _ (List.mem_append_left _ hp), rfl⟩
        · refine OT.fresh rfl rfl (e_new (fun _ => rfl) rfl) (fun _ => rfl) (fun _ => Keep.cons rfl (e_loadm (List.mem_cons_of_mem _ hmn) rfl rfl rfl rfl) (Keep.cons rfl (e_loadm (List.mem_cons_of_mem _ hmn) rfl rfl rfl rfl) Keep.nil)) (fun r6 => ?_)
          refine OGS.turn1 9 (by kernel_rfl) (by kernel_rfl) (OT.call rfl rfl (fun _ => rfl) ((Without_ct (i := q) h.cons hb (by omega)).mono ?_))
          rintro u L₁ ⟨Y, w1, w2, w3, rfl, rfl, hw⟩
          refine ⟨_, rfl, Keep.gone rfl (Keep.gone rfl Keep.nil), ?_⟩
          refine OGS.sub (Sub.swap (A := [(r6, _)]) (Y := Y) (G := (rn, nrRow n.leaf v1 v2 v3) :: L)) ?_
          refine OGS.turn1 11 (by kernel_rfl) (by kernel_rfl) (OT.write rfl rfl (e_store 0 (n := 4) rfl rfl rfl rfl rfl (nd_one (isSl hw.k) (isSl hw.v) (isSl hw.z)) rfl rfl) rfl (Keep.gone rfl (Keep.gone rfl Keep.nil)) ?_)
          exact OGS.nil (by kernel_rfl) ⟨r6, w1, w2, w3, Y, rfl, hw.mono fun p hp => List.mem_append_right [(r6, _)] (List.mem_append_left _ hp), rfl⟩
      rintro a L' ⟨r6, w1, w2, w3, Y, rfl, hw, rfl⟩
      have hms : (withoutN n q).ks.length + (withoutN n q).vs.length + (withoutN n q).kids.length ≤ 5000 := by
        have h1 := List.length_eraseIdx_le n.ks q
        have h2 := List.length_eraseIdx_le n.vs q
        have h3 := List.length_eraseIdx_le n.kids (q + 1)
        show (n.ks.eraseIdx q).length + (n.vs.eraseIdx q).length + (n.kids.eraseIdx (q + 1)).length ≤ 5000
        omega
      obtain ⟨hfm, hlt⟩ := without_less hf hqlt
      have hb9 : (!ileB ((sizeN n : Nat) : Int) (sizeN (withoutN n q) : Nat)) = true := by rw [ileB_eq]; simp; omega
      have hm6 : (r6, nrRow n.leaf w1 w2 w3) ∈ ((r6, nrRow n.leaf w1 w2 w3) :: (Y ++ (rn, nrRow n.leaf v1 v2 v3) :: L) : RL) := List.mem_cons_self ..
      have hmn : (rn, nrRow n.leaf v1 v2 v3) ∈ ((r6, nrRow n.leaf w1 w2 w3) :: (Y ++ (rn, nrRow n.leaf v1 v2 v3) :: L) : RL) := by simp
      have hnM : NV ((r6, nrRow n.leaf w1 w2 w3) :: (Y ++ (rn, nrRow n.leaf v1 v2 v3) :: L)) n v1 v2 v3 := h.mono fun p hp => List.mem_cons_of_mem _ (List.mem_append_right _ hp)
      generalize (r6, nrRow n.leaf w1 w2 w3) :: (Y ++ (rn, nrRow n.leaf v1 v2 v3) :: L) = M at hm6 hmn hnM hw
      repeat refine LS.seq ?_
      refine LS.drawn noGo mixed [(0, false), (1, true), (2, true), (3, false), (4, false), (7, false), (5, true), (6, true), (8, true), (9, true), (10, false), (11, false), (12, false)] rfl rfl (by kernel_rfl) ?_
      refine ODS.read rfl rfl (e_loadm hm6 rfl rfl rfl rfl) rfl ?_
      refine ODS.call rfl rfl (fun _ => rfl) (((given_ct hw hms)).mono ?_)
      rintro u L₁ ⟨Z1, x1, x2, x3, rfl, rfl, hx⟩
      refine ⟨_, rfl, Keep.gone rfl Keep.nil, ?_⟩
      refine ODS.call rfl rfl (fun _ => rfl) (((Fits_ct hx (by omega))).mono ?_)
      rintro u L₁ ⟨rfl, e₁⟩
      subst e₁
      refine ⟨_, rfl, Keep.gone rfl Keep.nil, ?_⟩
      rw [hfm]
      refine ODS.pure rfl rfl (fun _ => rfl) rfl ?_
      refine ODS.read rfl rfl (e_loadm (List.mem_append_right Z1 hm6) rfl rfl rfl rfl) rfl ?_
      refine ODS.read rfl rfl (e_loadm (List.mem_append_right Z1 hmn) rfl rfl rfl rfl) rfl ?_
      refine ODS.call rfl rfl (fun _ => rfl) (((given_ct (hw.mono fun p hp => List.mem_append_right Z1 hp) hms)).mono ?_)
      rintro u L₁ ⟨Z2, y1, y2, y3, rfl, rfl, hy⟩
      refine ⟨_, rfl, Keep.cons rfl (e_loadm (List.mem_append_right Z2 (List.mem_append_right Z1 hmn)) rfl rfl rfl rfl) (Keep.gone rfl (Keep.gone rfl Keep.nil)), ?_⟩
      refine ODS.call rfl rfl (fun _ => rfl) (((Size_ct hy (by omega))).mono ?_)
      rintro u L₁ ⟨rfl, e₁⟩
      subst e₁
      refine ⟨_, rfl, Keep.cons rfl (e_loadm (List.mem_append_right Z2 (List.mem_append_right Z1 hmn)) rfl rfl rfl rfl) (Keep.gone rfl (Keep.gone rfl Keep.nil)), ?_⟩
      refine ODS.call rfl rfl (fun _ => rfl) (((given_ct (hnM.mono fun p hp => List.mem_append_right Z2 (List.mem_append_right Z1 hp)) hb)).mono ?_)
      rintro u L₁ ⟨Z3, z1, z2, z3, rfl, rfl, hz3⟩
      refine ⟨_, rfl, Keep.gone rfl (Keep.gone rfl (Keep.gone rfl Keep.nil)), ?_⟩
      refine ODS.call rfl rfl (fun _ => rfl) (((Size_ct hz3 (by omega))).mono ?_)
      rintro u L₁ ⟨rfl, e₁⟩
      subst e₁
      refine ⟨_, rfl, Keep.gone rfl (Keep.gone rfl (Keep.gone rfl Keep.nil)), ?_⟩
      refine ODS.pure rfl rfl (e_is (fun _ => rfl) (congrArg Value.bool hb9)) rfl ?_
      refine ODS.pure rfl rfl (fun _ => rfl) rfl ?_
      refine ODS.pure rfl rfl (fun _ => rfl) rfl ?_
      refine ODS.nil ?_
      refine LS.ret ⟨_, fun _ _ => rfl, ?_⟩
      rfl
end Go.Proofs.Ytdffhllecojgcaa
