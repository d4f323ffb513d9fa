/- Layer 6: NodeReads's law. -/
import Derived.Test.YtdffhllecojgcaaNt
namespace Go.Am
theorem OS.turns {P : Program} {ops rest : List Oper} {o : Oper} {a : Slots} {L : RL} {K : Slots → RL → Prop} {R : Value → RL → Prop} (hw : wantedB ops o a = true) (e : ∀ h, Has h L → ∃ v h₁ L₁, opB P a o h = some (.val v h₁) ∧ Has h₁ L₁ ∧ R v L₁) (k : ∀ v L₁, R v L₁ → ∃ a₁, putAt a o.dst v = some a₁ ∧ OS P ops rest a₁ L₁ K) : OS P ops (o :: rest) a L K :=
  fun h H => let ⟨v, h₁, L₁, e₁, H₁, hR⟩ := e h H; let ⟨_, ep, k⟩ := k v L₁ hR; OQ.val hw e₁ ep (k h₁ H₁)
/-- A list that is nothing, or has a row of its own; what it has does not matter. -/
def Sh (e : TypeId) (k : Nat) (m : Value) (R : RL) : Prop := (m = .slice none 0 0 ∧ k = 0 ∧ R = []) ∨ ∃ q cs, m = .slice (some ⟨q, 0, none⟩) k openCap ∧ cs.length = k ∧ R = [(q, .cells e cs)]
theorem Sh.sv {e : TypeId} {k : Nat} {m : Value} {R L : RL} (h : Sh e k m R) (hm : ∀ p, p ∈ R → p ∈ L) : ∃ cs, SV 1 L m k cs := by
  rcases h with ⟨rfl, rfl, rfl⟩ | ⟨q, cs, rfl, hl, rfl⟩
  · exact ⟨[], .inl ⟨rfl, rfl, rfl⟩⟩
  · exact ⟨cs, SV.row (hm _ (List.mem_cons_self ..)) (by omega)⟩
theorem GV.sh {e : TypeId} {k : Nat} {m : Value} {R : RL} {cs : List Value} (g : GV e 1 [] m k cs R) : Sh e k m R := by
  rcases g with ⟨rfl, rfl, rfl, rfl⟩ | ⟨r, rfl, hl, rfl⟩
  · exact .inl ⟨rfl, rfl, rfl⟩
  · exact .inr ⟨r, cs, rfl, by omega, rfl⟩
end Go.Am
namespace Go.Proofs.Ytdffhllecojgcaa
open Go.Am
open Go.Proofs.Ytdffhllecojgcaa.T
set_option linter.unusedVariables false
set_option maxRecDepth 20000

def decN (bs : List UInt8) : Nd := (decB bs).getD ⟨false, [], [], []⟩
def decE (bs : List UInt8) : Int := if (decB bs).isSome then 0 else 4
theorem dec_all {M L' : RL} {bs : List UInt8} {u : Value} (h : DecV M bs u L') : ∃ m1 m2 m3 R1 Rb, u = .tuple #[ndV (decN bs).leaf m1 m2 m3, .int .i64 (decE bs)] ∧ L' = R1 ++ (Rb ++ M) ∧ NB (decN bs) ∧ GV 9 1 [] m1 (decN bs).ks.length (tx (decN bs).ks) R1 ∧
    (((decN bs).leaf = true ∧ GV 9 1 [] m2 (decN bs).vs.length (tx (decN bs).vs) Rb ∧ m3 = .slice none 0 0 ∧ (decN bs).kids = []) ∨ ((decN bs).leaf = false ∧ GV 3 1 [] m3 (decN bs).kids.length (nums (decN bs).kids) Rb ∧ m2 = .slice none 0 0 ∧ (decN bs).vs = [])) := by
  rcases h with ⟨hd, rfl, rfl⟩ | ⟨nd, u, hd, hNB, rfl, m1, m2, m3, R1, Rb, rfl, rfl, hk, hor⟩
  · have e1 : decN bs = ⟨false, [], [], []⟩ := by unfold decN; rw [hd]; rfl
    have e2 : decE bs = 4 := by unfold decE; rw [hd]; rfl
    rw [e1, e2]
    exact ⟨_, _, _, [], [], rfl, rfl, ⟨by simp, by simp, by simp, by simp, by simp⟩, .inl ⟨rfl, rfl, rfl, rfl⟩, .inr ⟨rfl, .inl ⟨rfl, rfl, rfl, rfl⟩, rfl, rfl⟩⟩
  · have e1 : decN bs = nd := by unfold decN; rw [hd]; rfl
    have e2 : decE bs = 0 := by unfold decE; rw [hd]; rfl
    rw [e1, e2]
    exact ⟨m1, m2, m3, R1, Rb, rfl, rfl, hNB, hk, hor⟩
theorem vl_bv {L X : RL} {r : Nat} {row : ARow} {cs : List Value} {v : Value} {bs : List UInt8} (h : VL 5 1 r X v bs.length (byteCells bs)) (hX : ∀ p, p ∈ X → p ∈ L) (hm : (r, row) ∈ L) (hc : rdRow row = some cs) : BV L v bs := by
  rcases h with ⟨h0, _, rfl, rfl⟩ | ⟨r', rfl, rfl, hl⟩
  · have : bs = [] := List.eq_nil_of_length_eq_zero h0
    subst this
    refine .inr ⟨SV.void hm hc, fun q off cap hv => ?_⟩
    simp only [Value.slice.injEq] at hv
    obtain ⟨_, _, rfl⟩ := hv
    exact ⟨by decide, Nat.le_refl _⟩
  · exact .inl (.inr ⟨r', 0, byteCells bs, rfl, hX _ (List.mem_cons_self ..), cut_all (byteCells_len bs)⟩)
theorem reads_law {L : RL} {vb : Value} {bs : List UInt8} (hb : RO 1 L vb bs.length (byteCells bs)) (hbn : bs.length ≤ 9223372036854775807) : CS Try.prog 4 [vb] L fun u L' => u = .bool true := by
  refine CS.mk (fn := Try.f4) rfl rfl rfl rfl ?_
  repeat refine LS.seq ?_
  refine LS.region rfl ?_
  refine OS.pure rfl (fun _ => rfl) rfl ?_
  refine OS.nil ?_
  by_cases h2 : 2000 < bs.length
  · have hb2 : (!ileB (bs.length : Int) 2000) = true := by rw [ileB_eq]; simp; omega
    repeat refine LS.seq ?_
    refine LS.region rfl ?_
    refine OS.pure rfl (fun _ => rfl) rfl ?_
    refine OS.pure rfl (e_len hb.sv rfl rfl rfl rfl rfl) rfl ?_
    refine OS.pure rfl (e_is (fun _ => rfl) (congrArg Value.bool hb2)) rfl ?_
    refine OS.nil ?_
    repeat refine LS.seq ?_
    refine LS.cond rfl (fun hc => ?_) (fun hc => ?_)
    · repeat refine LS.seq ?_
      refine LS.region rfl ?_
      refine OS.call noGo rfl (fun _ => rfl) ((awake_ct).mono ?_)
      rintro u L₁ ⟨rfl, e₁⟩
      refine ⟨_, rfl, ?_⟩
      refine OS.pure rfl (fun _ => rfl) rfl ?_
      refine OS.nil ?_
      refine LS.ret ⟨_, fun _ _ => rfl, ?_⟩
      rfl
    · cases hc
  have hb2 : (!ileB (bs.length : Int) 2000) = false := by rw [ileB_eq]; simp; omega
  repeat refine LS.seq ?_
  refine LS.region rfl ?_
  refine OS.pure rfl (fun _ => rfl) rfl ?_
  refine OS.pure rfl (e_len hb.sv rfl rfl rfl rfl rfl) rfl ?_
  refine OS.pure rfl (e_is (fun _ => rfl) (congrArg Value.bool hb2)) rfl ?_
  refine OS.nil ?_
  repeat refine LS.seq ?_
  refine LS.cond rfl (fun hc => ?_) (fun hc => ?_)
  · cases hc
  refine LS.skip ?_
  repeat refine LS.seq ?_
  refine LS.region rfl ?_
  refine OS.fresh rfl (e_new (fun _ => rfl) rfl) (fun _ => rfl) (fun r0 => ?_)
  refine OS.pure rfl (fun _ => rfl) rfl ?_
  refine OS.turns rfl (e_appVoid (r := r0) (sz := 1) (bts := 1) (m := bs.length) (SV.void (List.mem_cons_self ..) rfl) (hb.sv.mono fun p hp => List.mem_cons_of_mem _ hp) (byteCells_one bs) rfl rfl rfl (by omega) (by omega)) ?_
  rintro vi L₁ ⟨X, rfl, hX⟩
  refine ⟨_, rfl, ?_⟩
  refine OS.pure rfl (fun _ => rfl) rfl ?_
  refine OS.nil ?_
  have hin := vl_bv (L := X ++ (r0, .cells 5 []) :: L) hX (fun p hp => List.mem_append_left _ hp) (List.mem_append_right _ (List.mem_cons_self ..)) rfl
  have hbF := hb.sv.mono (L' := X ++ (r0, .cells 5 []) :: L) (fun p hp => List.mem_append_right _ (List.mem_cons_of_mem _ hp))
  change LSr none _ _ _ (X ++ (r0, .cells 5 []) :: L) _
  generalize X ++ (r0, ARow.cells 5 []) :: L = F at hin hbF
  clear hX hb
  repeat refine LS.seq ?_
  refine LS.region rfl ?_
  refine OS.pure rfl (fun _ => rfl) rfl ?_
  refine OS.call noGo rfl (fun _ => rfl) ((Decode_ct hin (by omega)).mono ?_)
  rintro u L₁ hD
  obtain ⟨m1, m2, m3, R1, Rb, rfl, rfl, hNB, hk, hor⟩ := dec_all hD
  obtain ⟨s1, s2, s3⟩ := rdn_sl hk hor
  refine ⟨_, rfl, ?_⟩
  refine OS.pure rfl (fun _ => rfl) rfl ?_
  refine OS.pure rfl (fun _ => rfl) rfl ?_
  refine OS.pure rfl (fun _ => rfl) rfl ?_
  refine OS.fresh rfl (e_new (fun _ => rfl) rfl) (fun _ => rfl) (fun r4 => ?_)
  refine OS.write rfl (e_store 0 (n := 4) rfl rfl rfl rfl rfl (nd_one s1 s2 s3) rfl rfl) rfl ?_
  refine OS.pure rfl (fun _ => rfl) rfl ?_
  refine OS.nil ?_
  have hnv1 : ∀ M : RL, (∀ p, p ∈ R1 → p ∈ M) → (∀ p, p ∈ Rb → p ∈ M) → NV M (decN bs) m1 m2 m3 := fun M h1 h2 => rdn_nv (M := F) hNB hk hor h1 h2
  repeat refine LS.seq ?_
  refine LS.region rfl ?_
  refine OS.pure rfl (fun _ => rfl) rfl ?_
  refine OS.call noGo rfl (fun _ => rfl) ((rDecode_ct (v := vb) (bs := bs) (hbF.mono fun p hp => by simp [hp]) (by omega)).mono ?_)
  rintro u L₁ hD2
  obtain ⟨w1, w2, w3, T1, Tb, rfl, rfl, _, hk2, hor2⟩ := dec_all hD2
  obtain ⟨t1, t2, t3⟩ := rdn_sl hk2 hor2
  refine ⟨_, rfl, ?_⟩
  refine OS.pure rfl (fun _ => rfl) rfl ?_
  refine OS.pure rfl (fun _ => rfl) rfl ?_
  refine OS.pure rfl (fun _ => rfl) rfl ?_
  refine OS.fresh rfl (e_new (fun _ => rfl) rfl) (fun _ => rfl) (fun r6 => ?_)
  refine OS.write rfl (e_store 0 (n := 4) rfl rfl rfl rfl rfl (nd_one t1 t2 t3) rfl rfl) rfl ?_
  refine OS.pure rfl (fun _ => rfl) rfl ?_
  refine OS.nil ?_
  have hnv2 : ∀ M : RL, (∀ p, p ∈ T1 → p ∈ M) → (∀ p, p ∈ Tb → p ∈ M) → NV M (decN bs) w1 w2 w3 := fun M h1 h2 => rdn_nv (M := F) hNB hk2 hor2 h1 h2
  have hA : ∃ A : RL, A = (r6, nrRow (decN bs).leaf w1 w2 w3) :: (T1 ++ Tb) := ⟨_, rfl⟩
  obtain ⟨A, hA⟩ := hA
  have hLA : (r6, nrRow (decN bs).leaf w1 w2 w3) :: (T1 ++ (Tb ++ ((r4, ndRow (decN bs).leaf m1 m2 m3) :: (R1 ++ (Rb ++ F))))) = A ++ (((r4, ndRow (decN bs).leaf m1 m2 m3) :: (R1 ++ Rb)) ++ F) := by rw [hA]; simp
  have hmA : (r6, nrRow (decN bs).leaf w1 w2 w3) ∈ A := by rw [hA]; simp
  have hnA : ∀ M : RL, (∀ p, p ∈ A → p ∈ M) → NV M (decN bs) w1 w2 w3 := fun M hM => hnv2 M (fun p hp => hM p (by rw [hA]; simp [hp])) (fun p hp => hM p (by rw [hA]; simp [hp]))
  change LSr none _ _ _ ((r6, nrRow (decN bs).leaf w1 w2 w3) :: (T1 ++ (Tb ++ ((r4, ndRow (decN bs).leaf m1 m2 m3) :: (R1 ++ (Rb ++ F)))))) _
  rw [hLA]
  refine LS.sub (Sub.swap (A := (r4, ndRow (decN bs).leaf m1 m2 m3) :: (R1 ++ Rb)) (Y := A) (G := F)) ?_
  clear hLA hA hnv2 hk2 hor2 hD hD2
  have hLB : ((r4, ndRow (decN bs).leaf m1 m2 m3) :: (R1 ++ Rb)) ++ (A ++ F) = (r4, ndRow (decN bs).leaf m1 m2 m3) :: (R1 ++ (Rb ++ (A ++ F))) := by simp
  rw [hLB]
  have c1 : (!ieqB (decE bs) (decE bs)) = false := by rw [ieqB_eq]; simp
  have c2 : (!sameN (decN bs) (decN bs)) = false := by rw [same_self]; rfl
  have c3 : (!bytesEq bs bs) = false := neq_self _
  have hm4 : (r4, ndRow (decN bs).leaf m1 m2 m3) ∈ ((r4, ndRow (decN bs).leaf m1 m2 m3) :: (R1 ++ (Rb ++ (A ++ F))) : RL) := List.mem_cons_self ..
  have hm6 : (r6, nrRow (decN bs).leaf w1 w2 w3) ∈ ((r4, ndRow (decN bs).leaf m1 m2 m3) :: (R1 ++ (Rb ++ (A ++ F))) : RL) := by simp [hmA]
  have hF : ∀ p, p ∈ F → p ∈ ((r4, ndRow (decN bs).leaf m1 m2 m3) :: (R1 ++ (Rb ++ (A ++ F))) : RL) := fun p hp => by simp [hp]
  repeat refine LS.seq ?_
  refine LS.drawn noGo mixed [(0, false), (1, false), (2, false), (3, false), (4, false), (6, false), (5, true), (7, true), (8, false), (9, false), (10, false), (11, false), (12, false), (13, false), (14, false), (15, false), (16, false)] rfl rfl (by kernel_rfl) ?_
  refine ODS.pure rfl rfl (fun _ => rfl) rfl ?_
  refine ODS.pure rfl rfl (fun _ => rfl) rfl ?_
  refine ODS.pure rfl rfl (e_is (fun _ => rfl) (congrArg Value.bool c1)) rfl ?_
  refine ODS.pure rfl rfl (fun _ => rfl) rfl ?_
  refine ODS.read rfl rfl (e_loadm hm4 rfl rfl rfl rfl) rfl ?_
  refine ODS.read rfl rfl (e_loadm hm6 rfl rfl rfl rfl) rfl ?_
  refine ODS.call rfl rfl (fun _ => rfl) ((back_ct s1 s2 s3).mono ?_)
  rintro u L₁ ⟨rfl, e₁⟩
  subst e₁
  refine ⟨_, rfl, Keep.cons rfl (e_loadm hm6 rfl rfl rfl rfl) (Keep.gone rfl Keep.nil), ?_⟩
  refine ODS.call rfl rfl (fun _ => rfl) ((Same_ct (hnv1 _ (fun p hp => by simp [hp]) (fun p hp => by simp [hp])) (hnA _ (fun p hp => by simp [hp]))).mono ?_)
  rintro u L₁ ⟨rfl, e₁⟩
  subst e₁
  refine ⟨_, rfl, Keep.gone rfl (Keep.gone rfl Keep.nil), ?_⟩
  refine ODS.pure rfl rfl (e_is (fun _ => rfl) (congrArg Value.bool c2)) rfl ?_
  refine ODS.pure rfl rfl (fun _ => rfl) rfl ?_
  refine ODS.pure rfl rfl (fun _ => rfl) rfl ?_
  refine ODS.pure rfl rfl (fun _ => rfl) rfl ?_
  refine ODS.read rfl rfl (e_textSV (hin.sv.mono hF) rfl rfl rfl rfl rfl) rfl ?_
  refine ODS.pure rfl rfl (fun _ => rfl) rfl ?_
  refine ODS.read rfl rfl (e_textSV (hbF.mono hF) rfl rfl rfl rfl rfl) rfl ?_
  refine ODS.pure rfl rfl (e_is (fun _ => rfl) (congrArg Value.bool c3)) rfl ?_
  refine ODS.pure rfl rfl (fun _ => rfl) rfl ?_
  refine ODS.nil ?_
  repeat refine LS.seq ?_
  refine LS.cond rfl (fun hc => ?_) (fun hc => ?_)
  · cases hc
  refine LS.skip ?_
  repeat refine LS.seq ?_
  refine LS.region rfl ?_
  refine OS.pure rfl (fun _ => rfl) rfl ?_
  refine OS.nil ?_
  have hkn := hNB.k
  have hzn := hNB.z
  repeat refine LS.seq ?_
  refine LS.mid [3, 4, 6] (fun a L' => ∃ R, L' = (r4, ndRow (decN bs).leaf m1 m2 m3) :: (R ++ (Rb ++ (A ++ F))) ∧ a = [.chan none, .chan none, .chan none, vi, .pointer (some ⟨r4, 0, none⟩), .chan none, .pointer (some ⟨r6, 0, none⟩), .chan none, .chan none, .chan none, .chan none, .chan none, .chan none, .chan none, .chan none, .chan none, .chan none, .chan none, .chan none, .chan none, .chan none, .chan none, .chan none, .chan none, .chan none, .chan none, .chan none, .chan none, .chan none, .chan none, .chan none, .chan none, .chan none, .chan none, .chan none, .chan none, .chan none, .chan none, .chan none, .chan none, .chan none, .chan none, .chan none, .chan none, .chan none, .chan none, .chan none, .chan none, .chan none, .chan none, .chan none, .chan none, .chan none, .chan none, .chan none, .chan none, .chan none, .chan none, .chan none, .chan none, .chan none, .chan none, .chan none, .chan none, .chan none, .chan none, .chan none, .chan none, .chan none, .chan none, .chan none, .chan none, .chan none, .chan none, .chan none, .chan none, .chan none, .chan none, .chan none, .chan none]) ?_ ?_
  · repeat refine LS.seq ?_
    refine LS.block ?_
    refine LS.loopJ [3, 4, 6, 8] (fun q a L' => ∃ (j : Nat) (R : RL), q = (decN bs).ks.length - j ∧ j ≤ (decN bs).ks.length ∧ Sh 9 (decN bs).ks.length m1 R ∧ L' = (r4, ndRow (decN bs).leaf m1 m2 m3) :: (R ++ (Rb ++ (A ++ F))) ∧ a = [.chan none, .chan none, .chan none, vi, .pointer (some ⟨r4, 0, none⟩), .chan none, .pointer (some ⟨r6, 0, none⟩), .chan none, .int .i64 (j : Nat), .chan none, .chan none, .chan none, .chan none, .chan none, .chan none, .chan none, .chan none, .chan none, .chan none, .chan none, .chan none, .chan none, .chan none, .chan none, .chan none, .chan none, .chan none, .chan none, .chan none, .chan none, .chan none, .chan none, .chan none, .chan none, .chan none, .chan none, .chan none, .chan none, .chan none, .chan none, .chan none, .chan none, .chan none, .chan none, .chan none, .chan none, .chan none, .chan none, .chan none, .chan none, .chan none, .chan none, .chan none, .chan none, .chan none, .chan none, .chan none, .chan none, .chan none, .chan none, .chan none, .chan none, .chan none, .chan none, .chan none, .chan none, .chan none, .chan none, .chan none, .chan none, .chan none, .chan none, .chan none, .chan none, .chan none, .chan none, .chan none, .chan none, .chan none, .chan none]) (n := (decN bs).ks.length) rfl ⟨0, R1, rfl, by omega, hk.sh, rfl, rfl⟩ ?_
    rintro q a L' ⟨j, R, rfl, hj, hR, rfl, rfl⟩
    obtain ⟨cs0, hsv⟩ := hR.sv (L := (r4, ndRow (decN bs).leaf m1 m2 m3) :: (R ++ (Rb ++ (A ++ F)))) (fun p hp => by simp [hp])
    repeat refine LS.seq ?_
    refine LS.region rfl ?_
    refine OS.pure rfl (fun _ => rfl) rfl ?_
    refine OS.pure rfl (fun _ => rfl) rfl ?_
    refine OS.read rfl (e_load 0 rfl rfl rfl rfl rfl) rfl ?_
    refine OS.pure rfl (e_len hsv rfl rfl rfl rfl rfl) rfl ?_
    refine OS.pure rfl (fun _ => rfl) rfl ?_
    refine OS.nil ?_
    repeat refine LS.seq ?_
    refine LS.cond rfl (fun hc => ?_) (fun hc => ?_)
    · have hc : (j : Int) < (decN bs).ks.length := lt_of hc
      have hjk : j < (decN bs).ks.length := by omega
      rcases hR with ⟨_, h0, _⟩ | ⟨qr, cs, rfl, hl, rfl⟩
      · omega
      refine LS.skip ?_
      repeat refine LS.seq ?_
      refine LS.block ?_
      repeat refine LS.seq ?_
      refine LS.region rfl ?_
      refine OS.pure rfl (fun _ => rfl) rfl ?_
      refine OS.read rfl (e_load 0 rfl rfl rfl rfl rfl) rfl ?_
      refine OS.pure rfl (fun _ => rfl) rfl ?_
      refine OS.pure rfl (e_index (j := j) (sz := 1) rfl rfl rfl rfl rfl hjk) rfl ?_
      refine OS.write rfl (e_store 1 (n := 1) (cs' := cs.set j (.string ⟨⟨[115, 112, 111, 105, 108, 116]⟩⟩)) rfl rfl rfl rfl rfl rfl (by show lay cs (0 + j * 1) [_] = _; rw [Nat.zero_add, Nat.mul_one]; exact lay_one (by omega)) rfl) rfl ?_
      refine OS.nil ?_
      repeat refine LS.seq ?_
      refine LS.region rfl ?_
      refine OS.pure rfl (fun _ => rfl) rfl ?_
      refine OS.pure rfl (e_add (m := j) (n := 1) rfl rfl rfl (in_i64 (by omega) (by omega))) rfl ?_
      refine OS.pure rfl (fun _ => rfl) rfl ?_
      refine OS.nil ?_
      exact ⟨(decN bs).ks.length - (j + 1), by omega, j + 1, [(qr, _)], rfl, by omega, .inr ⟨qr, _, rfl, by simp [hl], rfl⟩, rfl, rfl⟩
    · refine LS.exit ?_
      exact ⟨R, rfl, rfl⟩
  rintro a L' ⟨R, rfl, rfl⟩
  refine LS.sub (Sub.cons (Sub.suffix (X := R))) ?_
  obtain ⟨Rk, hRs, hRk⟩ : ∃ Rk, Sub ((r4, ndRow (decN bs).leaf m1 m2 m3) :: (Rk ++ (A ++ F))) ((r4, ndRow (decN bs).leaf m1 m2 m3) :: (Rb ++ (A ++ F))) ∧ Sh 3 (decN bs).kids.length m3 Rk := by
    rcases hor with ⟨_, _, h3, h4⟩ | ⟨_, hg, _, _⟩
    · exact ⟨[], Sub.cons (Sub.suffix (X := Rb)), .inl ⟨h3, by rw [h4]; rfl, rfl⟩⟩
    · exact ⟨Rb, Sub.self, hg.sh⟩
  refine LS.sub hRs ?_
  repeat refine LS.seq ?_
  refine LS.region rfl ?_
  refine OS.pure rfl (fun _ => rfl) rfl ?_
  refine OS.nil ?_
  repeat refine LS.seq ?_
  refine LS.mid [3, 4, 6] (fun a L' => ∃ R, L' = (r4, ndRow (decN bs).leaf m1 m2 m3) :: (R ++ (A ++ F)) ∧ a = [.chan none, .chan none, .chan none, vi, .pointer (some ⟨r4, 0, none⟩), .chan none, .pointer (some ⟨r6, 0, none⟩), .chan none, .chan none, .chan none, .chan none, .chan none, .chan none, .chan none, .chan none, .chan none, .chan none, .chan none, .chan none, .chan none, .chan none, .chan none, .chan none, .chan none, .chan none, .chan none, .chan none, .chan none, .chan none, .chan none, .chan none, .chan none, .chan none, .chan none, .chan none, .chan none, .chan none, .chan none, .chan none, .chan none, .chan none, .chan none, .chan none, .chan none, .chan none, .chan none, .chan none, .chan none, .chan none, .chan none, .chan none, .chan none, .chan none, .chan none, .chan none, .chan none, .chan none, .chan none, .chan none, .chan none, .chan none, .chan none, .chan none, .chan none, .chan none, .chan none, .chan none, .chan none, .chan none, .chan none, .chan none, .chan none, .chan none, .chan none, .chan none, .chan none, .chan none, .chan none, .chan none, .chan none]) ?_ ?_
  · repeat refine LS.seq ?_
    refine LS.block ?_
    refine LS.loopJ [3, 4, 6, 9] (fun q a L' => ∃ (j : Nat) (R : RL), q = (decN bs).kids.length - j ∧ j ≤ (decN bs).kids.length ∧ Sh 3 (decN bs).kids.length m3 R ∧ L' = (r4, ndRow (decN bs).leaf m1 m2 m3) :: (R ++ (A ++ F)) ∧ a = [.chan none, .chan none, .chan none, vi, .pointer (some ⟨r4, 0, none⟩), .chan none, .pointer (some ⟨r6, 0, none⟩), .chan none, .chan none, .int .i64 (j : Nat), .chan none, .chan none, .chan none, .chan none, .chan none, .chan none, .chan none, .chan none, .chan none, .chan none, .chan none, .chan none, .chan none, .chan none, .chan none, .chan none, .chan none, .chan none, .chan none, .chan none, .chan none, .chan none, .chan none, .chan none, .chan none, .chan none, .chan none, .chan none, .chan none, .chan none, .chan none, .chan none, .chan none, .chan none, .chan none, .chan none, .chan none, .chan none, .chan none, .chan none, .chan none, .chan none, .chan none, .chan none, .chan none, .chan none, .chan none, .chan none, .chan none, .chan none, .chan none, .chan none, .chan none, .chan none, .chan none, .chan none, .chan none, .chan none, .chan none, .chan none, .chan none, .chan none, .chan none, .chan none, .chan none, .chan none, .chan none, .chan none, .chan none, .chan none]) (n := (decN bs).kids.length) rfl ⟨0, Rk, rfl, by omega, hRk, rfl, rfl⟩ ?_
    rintro q a L' ⟨j, R, rfl, hj, hR, rfl, rfl⟩
    obtain ⟨cs0, hsv⟩ := hR.sv (L := (r4, ndRow (decN bs).leaf m1 m2 m3) :: (R ++ (A ++ F))) (fun p hp => by simp [hp])
    repeat refine LS.seq ?_
    refine LS.region rfl ?_
    refine OS.pure rfl (fun _ => rfl) rfl ?_
    refine OS.pure rfl (fun _ => rfl) rfl ?_
    refine OS.read rfl (e_load 0 rfl rfl rfl rfl rfl) rfl ?_
    refine OS.pure rfl (e_len hsv rfl rfl rfl rfl rfl) rfl ?_
    refine OS.pure rfl (fun _ => rfl) rfl ?_
    refine OS.nil ?_
    repeat refine LS.seq ?_
    refine LS.cond rfl (fun hc => ?_) (fun hc => ?_)
    · have hc : (j : Int) < (decN bs).kids.length := lt_of hc
      have hjk : j < (decN bs).kids.length := by omega
      rcases hR with ⟨_, h0, _⟩ | ⟨qr, cs, rfl, hl, rfl⟩
      · omega
      refine LS.skip ?_
      repeat refine LS.seq ?_
      refine LS.block ?_
      repeat refine LS.seq ?_
      refine LS.region rfl ?_
      refine OS.pure rfl (fun _ => rfl) rfl ?_
      refine OS.read rfl (e_load 0 rfl rfl rfl rfl rfl) rfl ?_
      refine OS.pure rfl (fun _ => rfl) rfl ?_
      refine OS.pure rfl (e_index (j := j) (sz := 1) rfl rfl rfl rfl rfl hjk) rfl ?_
      refine OS.write rfl (e_store 1 (n := 1) (cs' := cs.set j (.int .i64 (-1))) rfl rfl rfl rfl rfl rfl (by show lay cs (0 + j * 1) [_] = _; rw [Nat.zero_add, Nat.mul_one]; exact lay_one (by omega)) rfl) rfl ?_
      refine OS.nil ?_
      repeat refine LS.seq ?_
      refine LS.region rfl ?_
      refine OS.pure rfl (fun _ => rfl) rfl ?_
      refine OS.pure rfl (e_add (m := j) (n := 1) rfl rfl rfl (in_i64 (by omega) (by omega))) rfl ?_
      refine OS.pure rfl (fun _ => rfl) rfl ?_
      refine OS.nil ?_
      exact ⟨(decN bs).kids.length - (j + 1), by omega, j + 1, [(qr, _)], rfl, by omega, .inr ⟨qr, _, rfl, by simp [hl], rfl⟩, rfl, rfl⟩
    · refine LS.exit ?_
      exact ⟨R, rfl, rfl⟩
  rintro a L' ⟨R2, rfl, rfl⟩
  refine LS.sub ((Sub.suffix (X := R2)).trans Sub.tail) ?_
  have hinA : BV (A ++ F) vi bs := hin.mono fun p hp => List.mem_append_right _ hp
  repeat refine LS.seq ?_
  refine LS.region rfl ?_
  refine OS.pure rfl (fun _ => rfl) rfl ?_
  refine OS.call noGo rfl (fun _ => rfl) ((Decode_ct hinA (by omega)).mono ?_)
  rintro u L₁ hD
  obtain ⟨x1, x2, x3, S1, Sb, rfl, rfl, _, hk3, hor3⟩ := dec_all hD
  obtain ⟨y1, y2, y3⟩ := rdn_sl hk3 hor3
  refine ⟨_, rfl, ?_⟩
  refine OS.pure rfl (fun _ => rfl) rfl ?_
  refine OS.pure rfl (fun _ => rfl) rfl ?_
  refine OS.pure rfl (fun _ => rfl) rfl ?_
  refine OS.fresh rfl (e_new (fun _ => rfl) rfl) (fun _ => rfl) (fun r10 => ?_)
  refine OS.write rfl (e_store 0 (n := 4) rfl rfl rfl rfl rfl (nd_one y1 y2 y3) rfl rfl) rfl ?_
  refine OS.pure rfl (fun _ => rfl) rfl ?_
  refine OS.nil ?_
  have hnv3 : NV ((r10, ndRow (decN bs).leaf x1 x2 x3) :: (S1 ++ (Sb ++ (A ++ F)))) (decN bs) x1 x2 x3 := rdn_nv (M := F) hNB hk3 hor3 (fun p hp => by simp [hp]) (fun p hp => by simp [hp])
  have hnw3 : NV ((r10, ndRow (decN bs).leaf x1 x2 x3) :: (S1 ++ (Sb ++ (A ++ F)))) (decN bs) w1 w2 w3 := hnA _ (fun p hp => by simp [hp])
  have hm10 : (r10, ndRow (decN bs).leaf x1 x2 x3) ∈ ((r10, ndRow (decN bs).leaf x1 x2 x3) :: (S1 ++ (Sb ++ (A ++ F))) : RL) := List.mem_cons_self ..
  have hm6' : (r6, nrRow (decN bs).leaf w1 w2 w3) ∈ ((r10, ndRow (decN bs).leaf x1 x2 x3) :: (S1 ++ (Sb ++ (A ++ F))) : RL) := by simp [hmA]
  repeat refine LS.seq ?_
  refine LS.drawn noGo mixed [(0, false), (2, false), (1, true), (3, true), (4, false), (5, true), (6, false), (7, false)] rfl rfl (by kernel_rfl) ?_
  refine ODS.read rfl rfl (e_loadm hm10 rfl rfl rfl rfl) rfl ?_
  refine ODS.read rfl rfl (e_loadm hm6' rfl rfl rfl rfl) rfl ?_
  refine ODS.call rfl rfl (fun _ => rfl) ((back_ct y1 y2 y3).mono ?_)
  rintro u L₁ ⟨rfl, e₁⟩
  subst e₁
  refine ⟨_, rfl, Keep.cons rfl (e_loadm hm6' rfl rfl rfl rfl) (Keep.gone rfl Keep.nil), ?_⟩
  refine ODS.call rfl rfl (fun _ => rfl) ((Same_ct hnv3 hnw3).mono ?_)
  rintro u L₁ ⟨rfl, e₁⟩
  subst e₁
  refine ⟨_, rfl, Keep.gone rfl (Keep.gone rfl Keep.nil), ?_⟩
  rw [same_self]
  refine ODS.pure rfl rfl (fun _ => rfl) rfl ?_
  refine ODS.call rfl rfl (fun _ => rfl) ((awake_ct).mono ?_)
  rintro u L₁ ⟨rfl, e₁⟩
  subst e₁
  refine ⟨_, rfl, Keep.gone rfl (Keep.gone rfl Keep.nil), ?_⟩
  refine ODS.pure rfl rfl (fun _ => rfl) rfl ?_
  refine ODS.pure rfl rfl (fun _ => rfl) rfl ?_
  refine ODS.nil ?_
  refine LS.ret ⟨_, fun _ _ => rfl, ?_⟩
  rfl
end Go.Proofs.Ytdffhllecojgcaa
