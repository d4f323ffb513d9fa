/- Layer 6, the document's: Decode. -/
import Derived.Test.YtdffhllecojgcaaNq
import Derived.Test.YtdffhllecojgcaaNp
namespace Go.Am
theorem ODS.sub {P : Program} {ops : List Oper} {ms : List Nat} {K : Slots → RL → Prop} {sched : List (Nat × Bool)} {dn : Dn} {a : Slots} {L L₁ : RL} (s : Sub L₁ L) (k : ODS P ops ms K sched dn a L₁) : ODS P ops ms K sched dn a L := fun h H => k h (s.has H)
end Go.Am
namespace Go.Proofs.Ytdffhllecojgcaa
open Go.Am
open Go.Proofs.Ytdffhllecojgcaa.T
set_option linter.unusedVariables false
set_option maxRecDepth 20000

/-- What has failed has nothing left. -/
def NoneLeft (s : St) : Prop := s.2 = true → s.1 = []
theorem tk_noneLeft {α : Type} {z t : α} {k : Nat} {s : St} (h : NoneLeft s) : NoneLeft (tk z t k s).2 := by
  unfold tk NoneLeft
  split
  · exact h
  · split
    · exact fun _ => rfl
    · intro h; cases h
theorem beh_noneLeft {x : Nd × St} (h : NoneLeft x.2) : NoneLeft (rBeh x).2 := by
  unfold rBeh
  split <;> exact tk_noneLeft h
theorem beh_failed {x : Nd × St} (h : x.2.2 = true) : (rBeh x).2.2 = true := by
  have : ∀ (a : Bool), a = true → a = true := fun _ h => h
  unfold rBeh
  split
  · cases hc : (rdT 64 x.2).2.2 with
    | true => rfl
    | false => have := (tk_ok hc).1; rw [h] at this; cases this
  · cases hc : (rdC 32768 x.2).2.2 with
    | true => rfl
    | false => have := (tk_ok hc).1; rw [h] at this; cases this
theorem key_failed {x : Nd × St} (h : x.2.2 = true) : (rKey x).2.2 = true := by
  cases hc : (rKey x).2.2 with
  | true => rfl
  | false => have := (tk_ok hc).1; rw [h] at this; cases this
theorem loop_failed : ∀ {k : Nat} {x : Nd × St}, x.2.2 = true → (rLoop k x).2.2 = true
  | 0, _, h => h
  | k + 1, _, h => loop_failed (k := k) (beh_failed (key_failed h))
theorem dec_failed {bs : List UInt8} (h : (rNode bs).2.2 = true) : decB bs = none := by unfold decB; rw [h, if_neg (by simp)]
theorem dec_iff {bs : List UInt8} (h : (rNode bs).2.2 = false) (hm : mayN (rNode bs).1 = true) (hf : fitsN (rNode bs).1 = true) (he : encN (rNode bs).1 = bs) : decB bs = some (rNode bs).1 := by
  have := decB_of hf
  rw [he] at this
  exact this
theorem dec_is {bs : List UInt8} {n : Nd} (h : decB bs = some n) : n = (rNode bs).1 ∧ mayN n = true := by
  unfold decB at h
  split at h
  · rename_i hc
    have := Option.some.inj h
    subst this
    exact ⟨rfl, hc.2.2.1⟩
  · cases h
/-- A node that the document reads: its rows, the reader's ahead. -/
def RdR (T M : RL) (rr rn ro : Nat) (x : Nd × St) (L' : RL) : Prop := ∃ v m1 m2 m3 R1 Rb, L' = (rr, rrRowOf v x.2.2) :: (rn, nrRow x.1.leaf m1 m2 m3) :: (ro, nrRow false (.slice none 0 0) (.slice none 0 0) (.slice none 0 0)) :: (R1 ++ (Rb ++ M)) ∧ OV T v x.2.1 ∧
  GV 9 1 [] m1 x.1.ks.length (tx x.1.ks) R1 ∧
  ((x.1.leaf = true ∧ GV 9 1 [] m2 x.1.vs.length (tx x.1.vs) Rb ∧ m3 = .slice none 0 0 ∧ x.1.kids = []) ∨ (x.1.leaf = false ∧ GV 3 1 [] m3 x.1.kids.length (nums x.1.kids) Rb ∧ m2 = .slice none 0 0 ∧ x.1.vs = []))
theorem rdn_nvB {L' : RL} {B j : Nat} {x : Nd × St} {m1 m2 m3 : Value} {R1 Rb : RL} (hn : B ≤ 100000) (hj : j ≤ 300) (hB : RB B j x) (hk : GV 9 1 [] m1 x.1.ks.length (tx x.1.ks) R1) (hor : (x.1.leaf = true ∧ GV 9 1 [] m2 x.1.vs.length (tx x.1.vs) Rb ∧ m3 = .slice none 0 0 ∧ x.1.kids = []) ∨ (x.1.leaf = false ∧ GV 3 1 [] m3 x.1.kids.length (nums x.1.kids) Rb ∧ m2 = .slice none 0 0 ∧ x.1.vs = []))
    (h1 : ∀ p, p ∈ R1 → p ∈ L') (h2 : ∀ p, p ∈ Rb → p ∈ L') : NV L' x.1 m1 m2 m3 := by
  obtain ⟨g1, g2, g3, g4, g5, g6⟩ := hB
  rcases hor with ⟨hl, hg, rfl, he⟩ | ⟨hl, hg, rfl, he⟩
  · exact ⟨hk.sv.mono h1, hg.sv.mono h2, by rw [he]; exact .inl ⟨rfl, rfl, rfl⟩, by omega, by omega, by omega, fun k h => by have := g4 k h; omega, fun k h => by have := g5 k h; omega⟩
  · exact ⟨hk.sv.mono h1, by rw [he]; exact .inl ⟨rfl, rfl, rfl⟩, hg.sv.mono h2, by omega, by omega, by omega, fun k h => by have := g4 k h; omega, fun k h => by have := g5 k h; omega⟩
theorem rDecode_ct {L : RL} {v : Value} {bs : List UInt8} (hsv : SV 1 L v bs.length (byteCells bs)) (hn : bs.length ≤ 100000) : CS Try.prog 22 [v] L fun u L' => DecV L bs u L' := by
  suffices g : CS Try.prog 22 [v] L fun u L' => (decB bs = none ∧ u = .tuple #[ndV false (.slice none 0 0) (.slice none 0 0) (.slice none 0 0), .int .i64 4] ∧ ∃ X, L' = X ++ L) ∨ ∃ nd m1 m2 m3 Z R1 Rb X, decB bs = some nd ∧ NB nd ∧ u = .tuple #[ndV nd.leaf m1 m2 m3, .int .i64 0] ∧ L' = Z ++ (R1 ++ (Rb ++ (X ++ L))) ∧ GV 9 1 [] m1 nd.ks.length (tx nd.ks) R1 ∧
      ((nd.leaf = true ∧ GV 9 1 [] m2 nd.vs.length (tx nd.vs) Rb ∧ m3 = .slice none 0 0 ∧ nd.kids = []) ∨ (nd.leaf = false ∧ GV 3 1 [] m3 nd.kids.length (nums nd.kids) Rb ∧ m2 = .slice none 0 0 ∧ nd.vs = [])) by
    refine g.less fun u L' h => ?_
    rcases h with ⟨h1, h2, X, rfl⟩ | ⟨nd, m1, m2, m3, Z, R1, Rb, X, h1, h2, h3, rfl, h4, h5⟩
    · exact ⟨L, Sub.suffix, .inl ⟨h1, h2, rfl⟩⟩
    · exact ⟨R1 ++ (Rb ++ L), (Sub.app R1 (Sub.app Rb Sub.suffix)).trans Sub.suffix, .inr ⟨nd, _, h1, h2, h3, m1, m2, m3, R1, Rb, rfl, rfl, h4, h5⟩⟩
  refine CS.mk (fn := Try.f22) rfl rfl rfl rfl ?_
  repeat refine LS.seq ?_
  refine LS.region rfl ?_
  refine OS.fresh rfl (e_new (fun _ => rfl) rfl) (fun _ => rfl) (fun ro => ?_)
  refine OS.pure rfl (fun _ => rfl) rfl ?_
  refine OS.nil ?_
  repeat refine LS.seq ?_
  refine LS.region rfl ?_
  refine OS.pure rfl (fun _ => rfl) rfl ?_
  refine OS.call noGo rfl (fun _ => rfl) (((rNewReader_ct (bs := bs) hsv.cons (by omega))).mono ?_)
  rintro u L' ⟨rr, X, rfl, v0, rfl, hv0⟩
  refine ⟨_, rfl, ?_⟩
  refine OS.pure rfl (fun _ => rfl) rfl ?_
  refine OS.nil ?_
  have hTM : ∀ (Y : RL) p, p ∈ X → p ∈ Y ++ (X ++ (ro, nrRow false (.slice none 0 0) (.slice none 0 0) (.slice none 0 0)) :: L) := fun Y p hp => by simp [hp]
  repeat refine LS.seq ?_
  refine LS.region rfl ?_
  refine OS.pure rfl (fun _ => rfl) rfl ?_
  refine OS.call noGo rfl (fun _ => rfl) (((T.rFlag_ct (T := X) (bs := bs) (f := false) (hTM []) hv0 (by intro h; cases h) (by omega))).mono ?_)
  rintro u L' ⟨rfl, v1, rfl, hv1⟩
  refine ⟨_, rfl, ?_⟩
  change OV X v1 (rHead bs).2.1 at hv1
  have hl1 : NoneLeft (rHead bs).2 := tk_noneLeft (s := (bs, false)) (by intro h; cases h)
  have hs1 : (rHead bs).2.1.length ≤ bs.length := tk_le
  have hlf : ∃ lf, (rHead bs).1 = lf := ⟨_, rfl⟩
  obtain ⟨lf, hlf⟩ := hlf
  refine OS.pure rfl (fun _ => rfl) rfl ?_
  refine OS.fresh rfl (e_new (fun _ => rfl) rfl) (fun _ => rfl) (fun rn => ?_)
  refine OS.write rfl (e_store 0 rfl rfl rfl rfl rfl rfl rfl rfl) rfl ?_
  refine OS.nil ?_
  repeat refine LS.seq ?_
  refine LS.region rfl ?_
  refine OS.pure rfl (fun _ => rfl) rfl ?_
  refine OS.sub (Sub.pulls [1] rfl) ?_
  refine OS.call noGo rfl (fun _ => rfl) (((rCountT_ct (T := X) (bs := (rHead bs).2.1) (f := (rHead bs).2.2) (most := 256) (by decide) (by decide) (hTM [_]) hv1 hl1 (by omega))).mono ?_)
  rintro u L' ⟨rfl, v2, rfl, hv2⟩
  refine ⟨_, rfl, ?_⟩
  change OV X v2 (rCnt bs).2.1 at hv2
  have hl2 : NoneLeft (rCnt bs).2 := tk_noneLeft hl1
  have hs2 : (rCnt bs).2.1.length ≤ bs.length := Nat.le_trans tk_le hs1
  have hc := rdC_le (s := (rHead bs).2) (most := 256) (by decide)
  change 0 ≤ (rCnt bs).1 ∧ (rCnt bs).1 ≤ 256 at hc
  refine OS.pure rfl (fun _ => rfl) rfl ?_
  refine OS.nil ?_
  have hst : (rStart bs).1.leaf = lf := by unfold rStart; rw [hlf]; cases lf <;> rfl
  change LSr none _ _ _ ((rr, rrRowOf v2 (rCnt bs).2.2) :: (rn, nrRow (rHead bs).1 (.slice none 0 0) (.slice none 0 0) (.slice none 0 0)) :: (X ++ (ro, nrRow false (.slice none 0 0) (.slice none 0 0) (.slice none 0 0)) :: L)) _
  rw [hlf]
  refine LS.sub (Sub.cons (Sub.cons (Sub.swap (A := [(ro, nrRow false (.slice none 0 0) (.slice none 0 0) (.slice none 0 0))]) (Y := X) (G := L)))) ?_
  repeat refine LS.seq ?_
  refine LS.region rfl ?_
  refine OS.pure rfl (fun _ => rfl) rfl ?_
  refine OS.read rfl (e_load 1 rfl rfl rfl rfl rfl) rfl ?_
  refine OS.pure rfl (fun _ => rfl) rfl ?_
  refine OS.nil ?_
  repeat refine LS.seq ?_
  refine LS.mid [0, 2, 4, 5, 6] (fun a L' => RdR X (X ++ L) rr rn ro (rStart bs) L' ∧ RB bs.length 0 (rStart bs) ∧ NoneLeft (rStart bs).2 ∧ a = [v, .chan none, .pointer (some ⟨ro, 0, none⟩), .chan none, .pointer (some ⟨rr, 0, none⟩), .pointer (some ⟨rn, 0, none⟩), .int .i64 (rCnt bs).1, .chan none, .chan none, .chan none, .chan none, .chan none, .chan none, .chan none, .chan none, .chan none, .chan none, .chan none, .chan none, .chan none, .chan none, .chan none, .chan none, .chan none, .chan none, .chan none, .chan none, .chan none, .chan none, .chan none, .chan none, .chan none, .chan none, .chan none, .chan none, .chan none, .chan none, .chan none, .chan none, .chan none, .chan none, .chan none, .chan none, .chan none, .chan none, .chan none, .chan none, .chan none, .chan none, .chan none, .chan none, .chan none, .chan none, .chan none, .chan none, .chan none, .chan none, .chan none, .chan none, .chan none, .chan none, .chan none, .chan none, .chan none, .chan none, .chan none, .chan none, .chan none, .chan none, .chan none, .chan none, .chan none, .chan none, .chan none, .chan none, .chan none, .chan none, .chan none, .chan none, .chan none, .chan none, .chan none, .chan none, .chan none]) ?_ ?_
  · refine LS.cond (b := !lf) rfl (fun hc0 => ?_) (fun hc0 => ?_)
    · obtain rfl : lf = false := by simpa using hc0
      have hx : rStart bs = rBeh (⟨false, [], [], []⟩, (rCnt bs).2) := by unfold rStart; rw [hlf]; rfl
      repeat refine LS.seq ?_
      refine LS.drawn noGo mixed [(0, false), (1, false), (2, false), (3, true), (4, true), (5, true), (6, false), (7, true)] rfl rfl (by kernel_rfl) ?_
      refine ODS.pure rfl rfl (fun _ => rfl) rfl ?_
      refine ODS.read rfl rfl (e_load 1 rfl rfl rfl rfl rfl) rfl ?_
      refine ODS.pure rfl rfl (fun _ => rfl) rfl ?_
      refine ODS.call rfl rfl (fun _ => rfl) (((rCountT_ct (T := X) (bs := (rCnt bs).2.1) (f := (rCnt bs).2.2) (most := 32768) (by decide) (by decide) (fun p hp => by simp [hp]) hv2 hl2 (by omega))).mono ?_)
      rintro u L' ⟨rfl, v3, rfl, hv3⟩
      refine ⟨_, rfl, Keep.cons rfl (e_load 1 rfl rfl rfl rfl rfl) Keep.nil, ?_⟩
      refine ODS.fresh rfl rfl (e_new (fun _ => rfl) rfl) (fun _ => rfl) (fun _ => Keep.cons rfl (e_load 2 rfl rfl rfl rfl rfl) Keep.nil) (fun rq => ?_)
      refine ODS.fresh rfl rfl (e_appendGV [(rq, _), (rr, _), (rn, _), (ro, _)] (F := X ++ L) (e := 3) (cs := []) (n := 0) (m := 1) (sz := 1) (bts := 8) (.inl ⟨rfl, rfl, rfl, rfl⟩) (SV.row (sz := 1) (n := 1) (List.mem_cons_self ..) rfl) (by omega) rfl rfl rfl rfl (by omega) (by omega)) (fun _ => rfl) (fun _ => Keep.gone rfl Keep.nil) (fun r2 => ?_)
      refine ODS.pure rfl rfl (fun _ => rfl) rfl ?_
      refine ODS.write rfl rfl (e_store 3 rfl rfl rfl rfl rfl rfl rfl rfl) rfl (Keep.gone rfl Keep.nil) ?_
      refine ODS.sub (Sub.pulls [4, 4, 4] rfl) ?_
      refine ODS.sub (Sub.drop 4 rfl) ?_
      refine ODS.nil ?_
      refine ⟨?_, ?_, ?_, rfl⟩
      · rw [hx]
        exact ⟨v3, _, _, _, [], [(r2, .cells 3 [.int .i64 (rdC 32768 (rCnt bs).2).1])], rfl, hv3, .inl ⟨rfl, rfl, rfl, rfl⟩, .inr ⟨rfl, .inr ⟨r2, rfl, rfl, rfl⟩, rfl, rfl⟩⟩
      · rw [hx]
        exact ⟨Nat.le_refl _, Nat.le_refl _, Nat.le_refl _, by simp [rBeh], by simp [rBeh], Nat.le_trans tk_le hs2⟩
      · rw [hx]; exact beh_noneLeft hl2
    · obtain rfl : lf = true := by simpa using hc0
      have hx : rStart bs = (⟨true, [], [], []⟩, (rCnt bs).2) := by unfold rStart; rw [hlf]; rfl
      refine LS.skip ?_
      refine ⟨?_, ?_, ?_, rfl⟩
      · rw [hx]
        exact ⟨v2, .slice none 0 0, .slice none 0 0, .slice none 0 0, [], [], rfl, hv2, .inl ⟨rfl, rfl, rfl, rfl⟩, .inl ⟨rfl, .inl ⟨rfl, rfl, rfl, rfl⟩, rfl, rfl⟩⟩
      · rw [hx]
        exact ⟨Nat.le_refl _, Nat.le_refl _, Nat.zero_le _, by simp, by simp, hs2⟩
      · rw [hx]; exact hl2
  rintro a L' ⟨hRd0, hRB0, hNL0, rfl⟩
  obtain ⟨c, hcn⟩ := Int.eq_ofNat_of_zero_le hc.1
  have hct : (rCnt bs).1.toNat = c := by omega
  rw [hcn]
  repeat refine LS.seq ?_
  refine LS.region rfl ?_
  refine OS.pure rfl (fun _ => rfl) rfl ?_
  refine OS.nil ?_
  repeat refine LS.seq ?_
  refine LS.block ?_
  refine LS.loopJ [0, 2, 4, 5, 6, 7] (fun q a L' => ∃ (j : Nat) (x : Nd × St), q = c - j ∧ j ≤ c ∧ rLoop (c - j) x = rNode bs ∧ RdR X (X ++ L) rr rn ro x L' ∧ RB bs.length j x ∧ NoneLeft x.2 ∧
    a = [v, .chan none, .pointer (some ⟨ro, 0, none⟩), .chan none, .pointer (some ⟨rr, 0, none⟩), .pointer (some ⟨rn, 0, none⟩), .int .i64 (c : Nat), .int .i64 (j : Nat), .chan none, .chan none, .chan none, .chan none, .chan none, .chan none, .chan none, .chan none, .chan none, .chan none, .chan none, .chan none, .chan none, .chan none, .chan none, .chan none, .chan none, .chan none, .chan none, .chan none, .chan none, .chan none, .chan none, .chan none, .chan none, .chan none, .chan none, .chan none, .chan none, .chan none, .chan none, .chan none, .chan none, .chan none, .chan none, .chan none, .chan none, .chan none, .chan none, .chan none, .chan none, .chan none, .chan none, .chan none, .chan none, .chan none, .chan none, .chan none, .chan none, .chan none, .chan none, .chan none, .chan none, .chan none, .chan none, .chan none, .chan none, .chan none, .chan none, .chan none, .chan none, .chan none, .chan none, .chan none, .chan none, .chan none, .chan none, .chan none, .chan none, .chan none, .chan none, .chan none, .chan none, .chan none, .chan none, .chan none]) (n := c) rfl ⟨0, rStart bs, rfl, by omega, by unfold rNode; rw [hct]; rfl, hRd0, hRB0, hNL0, rfl⟩ ?_
  rintro q a L' ⟨j, x, rfl, hj, hloop, hRd, hRB, hNL, rfl⟩
  obtain ⟨⟨xl, ks, vs, kids⟩, ⟨sb, sf⟩⟩ := x
  obtain ⟨w, m1, m2, m3, R1, Rb, rfl, hw, hk, hor⟩ := hRd
  have hRB' := hRB
  obtain ⟨g1, g2, g3, g4, g5, g6⟩ := hRB
  simp only at hw hk hor g1 g2 g3 g4 g5 g6
  repeat refine LS.seq ?_
  refine LS.mid [0, 2, 4, 5, 6, 7, 33] (fun a L' => L' = (rr, rrRowOf w sf) :: (rn, nrRow xl m1 m2 m3) :: (ro, nrRow false (.slice none 0 0) (.slice none 0 0) (.slice none 0 0)) :: (R1 ++ (Rb ++ (X ++ L))) ∧ a = [v, .chan none, .pointer (some ⟨ro, 0, none⟩), .chan none, .pointer (some ⟨rr, 0, none⟩), .pointer (some ⟨rn, 0, none⟩), .int .i64 (c : Nat), .int .i64 (j : Nat), .chan none, .chan none, .chan none, .chan none, .chan none, .chan none, .chan none, .chan none, .chan none, .chan none, .chan none, .chan none, .chan none, .chan none, .chan none, .chan none, .chan none, .chan none, .chan none, .chan none, .chan none, .chan none, .chan none, .chan none, .chan none, .bool (decide (j < c) && !sf), .chan none, .chan none, .chan none, .chan none, .chan none, .chan none, .chan none, .chan none, .chan none, .chan none, .chan none, .chan none, .chan none, .chan none, .chan none, .chan none, .chan none, .chan none, .chan none, .chan none, .chan none, .chan none, .chan none, .chan none, .chan none, .chan none, .chan none, .chan none, .chan none, .chan none, .chan none, .chan none, .chan none, .chan none, .chan none, .chan none, .chan none, .chan none, .chan none, .chan none, .chan none, .chan none, .chan none, .chan none, .chan none, .chan none, .chan none, .chan none, .chan none, .chan none]) ?_ ?_
  · by_cases hjc : j < c
    · have hb1 : (!ileB (c : Int) (j : Nat)) = true := by rw [ileB_eq]; simp; omega
      repeat refine LS.seq ?_
      refine LS.region rfl ?_
      refine OS.pure rfl (fun _ => rfl) rfl ?_
      refine OS.pure rfl (fun _ => rfl) rfl ?_
      refine OS.pure rfl (e_is (fun _ => rfl) (congrArg Value.bool hb1)) rfl ?_
      refine OS.pure rfl (fun _ => rfl) rfl ?_
      refine OS.pure rfl (fun _ => rfl) rfl ?_
      refine OS.call noGo rfl (fun _ => rfl) ((rOK_ct).mono ?_)
      rintro u L' ⟨rfl, rfl⟩
      refine ⟨_, rfl, ?_⟩
      refine OS.pure rfl (fun _ => rfl) rfl ?_
      refine OS.nil ?_
      rw [decide_eq_true hjc]
      exact ⟨rfl, rfl⟩
    · have hb1 : (!ileB (c : Int) (j : Nat)) = false := by rw [ileB_eq]; simp; omega
      repeat refine LS.seq ?_
      refine LS.region rfl ?_
      refine OS.pure rfl (fun _ => rfl) rfl ?_
      refine OS.pure rfl (fun _ => rfl) rfl ?_
      refine OS.pure rfl (e_is (fun _ => rfl) (congrArg Value.bool hb1)) rfl ?_
      refine OS.pure rfl (fun _ => rfl) rfl ?_
      refine OS.skip rfl rfl ?_
      refine OS.skip rfl rfl ?_
      refine OS.pure rfl (fun _ => rfl) rfl ?_
      refine OS.nil ?_
      rw [decide_eq_false hjc]
      exact ⟨rfl, rfl⟩
  rintro a L' ⟨rfl, rfl⟩
  repeat refine LS.seq ?_
  refine LS.cond (b := decide (j < c) && !sf) rfl (fun hgo => ?_) (fun hgo => ?_)
  · rw [Bool.and_eq_true] at hgo
    obtain ⟨hjc, hsf⟩ := hgo
    have hjc := of_decide_eq_true hjc
    obtain rfl : sf = false := by simpa using hsf
    have e1 : tx ks ++ [txt (rdT 32 (sb, false)).1] = tx (ks ++ [(rdT 32 (sb, false)).1]) := by simp [tx]
    have hkey := hRB'.key g1
    have hbeh := hkey.beh (show vs.length < j + 1 by omega) (show kids.length ≤ j + 1 by omega)
    have hNLk : NoneLeft (rKey (⟨xl, ks, vs, kids⟩, (sb, false))).2 := tk_noneLeft hNL
    have hNLb := beh_noneLeft hNLk
    refine LS.skip ?_
    repeat refine LS.seq ?_
    refine LS.mid [0, 2, 4, 5, 6, 7] (fun a L' => RdR X (X ++ L) rr rn ro (rBeh (rKey (⟨xl, ks, vs, kids⟩, (sb, false)))) L' ∧ a = [v, .chan none, .pointer (some ⟨ro, 0, none⟩), .chan none, .pointer (some ⟨rr, 0, none⟩), .pointer (some ⟨rn, 0, none⟩), .int .i64 (c : Nat), .int .i64 (j : Nat), .chan none, .chan none, .chan none, .chan none, .chan none, .chan none, .chan none, .chan none, .chan none, .chan none, .chan none, .chan none, .chan none, .chan none, .chan none, .chan none, .chan none, .chan none, .chan none, .chan none, .chan none, .chan none, .chan none, .chan none, .chan none, .chan none, .chan none, .chan none, .chan none, .chan none, .chan none, .chan none, .chan none, .chan none, .chan none, .chan none, .chan none, .chan none, .chan none, .chan none, .chan none, .chan none, .chan none, .chan none, .chan none, .chan none, .chan none, .chan none, .chan none, .chan none, .chan none, .chan none, .chan none, .chan none, .chan none, .chan none, .chan none, .chan none, .chan none, .chan none, .chan none, .chan none, .chan none, .chan none, .chan none, .chan none, .chan none, .chan none, .chan none, .chan none, .chan none, .chan none, .chan none, .chan none, .chan none, .chan none]) ?_ ?_
    · repeat refine LS.seq ?_
      refine LS.block ?_
      repeat refine LS.seq ?_
      refine LS.drawn noGo mixed [(0, false), (1, false), (2, false), (3, true), (4, true), (5, true), (6, false), (7, true)] rfl rfl (by kernel_rfl) ?_
      refine ODS.pure rfl rfl (fun _ => rfl) rfl ?_
      refine ODS.read rfl rfl (e_load 1 rfl rfl rfl rfl rfl) rfl ?_
      refine ODS.pure rfl rfl (fun _ => rfl) rfl ?_
      refine ODS.call rfl rfl (fun _ => rfl) (((rStrT_ct (T := X) (bs := sb) (f := false) (most := 32) (by decide) (by decide) (fun p hp => by simp [hp]) hw hNL (by omega))).mono ?_)
      rintro u L' ⟨rfl, w', rfl, hw'⟩
      refine ⟨_, rfl, Keep.cons rfl (e_load 1 rfl rfl rfl rfl rfl) Keep.nil, ?_⟩
      refine ODS.fresh rfl rfl (e_new (fun _ => rfl) rfl) (fun _ => rfl) (fun _ => Keep.cons rfl (e_load 2 rfl rfl rfl rfl rfl) Keep.nil) (fun rq => ?_)
      refine ODS.fresh rfl rfl (e_appendGV [(rq, _), (rr, _), (rn, _), (ro, _)] (F := Rb ++ (X ++ L)) (e := 9) (cs := tx ks) (n := ks.length) (m := 1) (sz := 1) (bts := 16) (GV.appendR (Rb ++ (X ++ L)) hk) (SV.row (sz := 1) (n := 1) (List.mem_cons_self ..) rfl) (by omega) rfl rfl rfl rfl (by omega) (by omega)) (fun _ => rfl) (fun _ => Keep.gone rfl Keep.nil) (fun r2 => ?_)
      refine ODS.pure rfl rfl (fun _ => rfl) rfl ?_
      refine ODS.write rfl rfl (e_store 3 rfl rfl rfl rfl rfl rfl rfl rfl) rfl (Keep.gone rfl Keep.nil) ?_
      refine ODS.sub (Sub.pulls [4, 4, 4] rfl) ?_
      refine ODS.sub (Sub.drop 4 rfl) ?_
      refine ODS.nil ?_
      have hk' : GV 9 1 [] (.slice (some ⟨r2, 0, none⟩) (ks.length + 1) openCap) (ks ++ [(rdT 32 (sb, false)).1]).length (tx (ks ++ [(rdT 32 (sb, false)).1])) [(r2, .cells 9 (tx ks ++ [txt (rdT 32 (sb, false)).1]))] := by
        rw [← e1, List.length_append]
        exact .inr ⟨r2, rfl, by simp, rfl⟩
      generalize hY : [(r2, ARow.cells 9 (tx ks ++ [txt (rdT 32 (sb, false)).1]))] = Y at hk'
      change LSr none _ _ _ ((rr, rrRowOf w' (rdT 32 (sb, false)).2.2) :: (rn, nrRow xl (.slice (some ⟨r2, 0, none⟩) (ks.length + 1) openCap) m2 m3) :: (ro, nrRow false (.slice none 0 0) (.slice none 0 0) (.slice none 0 0)) :: ([(r2, ARow.cells 9 (tx ks ++ [txt (rdT 32 (sb, false)).1]))] ++ (Rb ++ (X ++ L)))) _
      rw [hY]
      clear hY hk
      change OV X w' (rdT 32 (sb, false)).2.1 at hw'
      have hs' : (rdT 32 (sb, false)).2.1.length ≤ bs.length := Nat.le_trans tk_le g6
      have hNLk' : NoneLeft (rdT 32 (sb, false)).2 := hNLk
      repeat refine LS.seq ?_
      refine LS.region rfl ?_
      refine OS.pure rfl (fun _ => rfl) rfl ?_
      refine OS.read rfl (e_load 1 rfl rfl rfl rfl rfl) rfl ?_
      refine OS.nil ?_
      refine LS.cond (b := xl) rfl (fun hxl => ?_) (fun hxl => ?_)
      · subst hxl
        rcases hor with ⟨_, hg, rfl, rfl⟩ | ⟨hbad, _⟩
        case inr => cases hbad
        refine LS.sub (Sub.cons (Sub.cons (Sub.cons Sub.swap))) ?_
        repeat refine LS.seq ?_
        refine LS.drawn noGo mixed [(0, false), (1, false), (2, false), (3, true), (4, true), (5, true), (6, false), (7, true)] rfl rfl (by kernel_rfl) ?_
        refine ODS.pure rfl rfl (fun _ => rfl) rfl ?_
        refine ODS.read rfl rfl (e_load 1 rfl rfl rfl rfl rfl) rfl ?_
        refine ODS.pure rfl rfl (fun _ => rfl) rfl ?_
        refine ODS.call rfl rfl (fun _ => rfl) (((rStrT_ct (T := X) (bs := (rdT 32 (sb, false)).2.1) (f := (rdT 32 (sb, false)).2.2) (most := 64) (by decide) (by decide) (fun p hp => by simp [hp]) hw' hNLk' (by omega))).mono ?_)
        rintro u L' ⟨rfl, w2, rfl, hw2⟩
        refine ⟨_, rfl, Keep.cons rfl (e_load 1 rfl rfl rfl rfl rfl) Keep.nil, ?_⟩
        refine ODS.fresh rfl rfl (e_new (fun _ => rfl) rfl) (fun _ => rfl) (fun _ => Keep.cons rfl (e_load 2 rfl rfl rfl rfl rfl) Keep.nil) (fun rq => ?_)
        refine ODS.fresh rfl rfl (e_appendGV [(rq, _), (rr, _), (rn, _), (ro, _)] (F := Y ++ (X ++ L)) (e := 9) (cs := tx vs) (n := vs.length) (m := 1) (sz := 1) (bts := 16) (GV.appendR (Y ++ (X ++ L)) hg) (SV.row (sz := 1) (n := 1) (List.mem_cons_self ..) rfl) (by omega) rfl rfl rfl rfl (by omega) (by omega)) (fun _ => rfl) (fun _ => Keep.gone rfl Keep.nil) (fun r3 => ?_)
        refine ODS.pure rfl rfl (fun _ => rfl) rfl ?_
        refine ODS.write rfl rfl (e_store 3 rfl rfl rfl rfl rfl rfl rfl rfl) rfl (Keep.gone rfl Keep.nil) ?_
        refine ODS.sub (Sub.pulls [4, 4, 4] rfl) ?_
        refine ODS.sub (Sub.drop 4 rfl) ?_
        refine ODS.sub (Sub.cons (Sub.cons (Sub.cons (Sub.swap (A := Y) (Y := [(r3, _)]) (G := X ++ L))))) ?_
        refine ODS.nil ?_
        refine ⟨?_, rfl⟩
        have e2 : tx vs ++ [txt (rdT 64 (rdT 32 (sb, false)).2).1] = tx (vs ++ [(rdT 64 (rdT 32 (sb, false)).2).1]) := by simp [tx]
        refine ⟨w2, _, _, _, Y, _, rfl, hw2, hk', .inl ⟨rfl, ?_, rfl, rfl⟩⟩
        show GV _ 1 [] _ (vs ++ [(rdT 64 (rdT 32 (sb, false)).2).1]).length (tx (vs ++ [(rdT 64 (rdT 32 (sb, false)).2).1])) _
        rw [← e2, List.length_append]
        exact .inr ⟨r3, rfl, by simp, rfl⟩
      · subst hxl
        rcases hor with ⟨hbad, _⟩ | ⟨_, hg, rfl, rfl⟩
        case inl => cases hbad
        refine LS.sub (Sub.cons (Sub.cons (Sub.cons Sub.swap))) ?_
        repeat refine LS.seq ?_
        refine LS.drawn noGo mixed [(0, false), (1, false), (2, false), (3, true), (4, true), (5, true), (6, false), (7, true)] rfl rfl (by kernel_rfl) ?_
        refine ODS.pure rfl rfl (fun _ => rfl) rfl ?_
        refine ODS.read rfl rfl (e_load 1 rfl rfl rfl rfl rfl) rfl ?_
        refine ODS.pure rfl rfl (fun _ => rfl) rfl ?_
        refine ODS.call rfl rfl (fun _ => rfl) (((rCountT_ct (T := X) (bs := (rdT 32 (sb, false)).2.1) (f := (rdT 32 (sb, false)).2.2) (most := 32768) (by decide) (by decide) (fun p hp => by simp [hp]) hw' hNLk' (by omega))).mono ?_)
        rintro u L' ⟨rfl, w2, rfl, hw2⟩
        refine ⟨_, rfl, Keep.cons rfl (e_load 1 rfl rfl rfl rfl rfl) Keep.nil, ?_⟩
        refine ODS.fresh rfl rfl (e_new (fun _ => rfl) rfl) (fun _ => rfl) (fun _ => Keep.cons rfl (e_load 2 rfl rfl rfl rfl rfl) Keep.nil) (fun rq => ?_)
        refine ODS.fresh rfl rfl (e_appendGV [(rq, _), (rr, _), (rn, _), (ro, _)] (F := Y ++ (X ++ L)) (e := 3) (cs := nums kids) (n := kids.length) (m := 1) (sz := 1) (bts := 8) (GV.appendR (Y ++ (X ++ L)) hg) (SV.row (sz := 1) (n := 1) (List.mem_cons_self ..) rfl) (by omega) rfl rfl rfl rfl (by omega) (by omega)) (fun _ => rfl) (fun _ => Keep.gone rfl Keep.nil) (fun r3 => ?_)
        refine ODS.pure rfl rfl (fun _ => rfl) rfl ?_
        refine ODS.write rfl rfl (e_store 3 rfl rfl rfl rfl rfl rfl rfl rfl) rfl (Keep.gone rfl Keep.nil) ?_
        refine ODS.sub (Sub.pulls [4, 4, 4] rfl) ?_
        refine ODS.sub (Sub.drop 4 rfl) ?_
        refine ODS.sub (Sub.cons (Sub.cons (Sub.cons (Sub.swap (A := Y) (Y := [(r3, _)]) (G := X ++ L))))) ?_
        refine ODS.nil ?_
        refine ⟨?_, rfl⟩
        have e2 : nums kids ++ [.int .i64 (rdC 32768 (rdT 32 (sb, false)).2).1] = nums (kids ++ [(rdC 32768 (rdT 32 (sb, false)).2).1]) := by simp [nums]
        refine ⟨w2, _, _, _, Y, _, rfl, hw2, hk', .inr ⟨rfl, ?_, rfl, rfl⟩⟩
        show GV _ 1 [] _ (kids ++ [(rdC 32768 (rdT 32 (sb, false)).2).1]).length (nums (kids ++ [(rdC 32768 (rdT 32 (sb, false)).2).1])) _
        rw [← e2, List.length_append]
        exact .inr ⟨r3, rfl, by simp, rfl⟩
    rintro a L' ⟨hL, rfl⟩
    repeat refine LS.seq ?_
    refine LS.region rfl ?_
    refine OS.pure rfl (fun _ => rfl) rfl ?_
    refine OS.pure rfl (e_add (m := j) (n := 1) rfl rfl rfl (in_i64 (by omega) (by omega))) rfl ?_
    refine OS.pure rfl (fun _ => rfl) rfl ?_
    refine OS.nil ?_
    refine ⟨c - (j + 1), by omega, j + 1, rBeh (rKey (⟨xl, ks, vs, kids⟩, (sb, false))), rfl, by omega, ?_, hL, hbeh, hNLb, rfl⟩
    rw [← hloop, show c - j = (c - (j + 1)) + 1 by omega]
    rfl
  · refine LS.exit ?_
    obtain ⟨s1, s2, s3⟩ := rdn_sl (n := ⟨xl, ks, vs, kids⟩) hk hor
    cases sf with
    | true =>
      have hd : decB bs = none := dec_failed (by rw [← hloop]; exact loop_failed rfl)
      repeat refine LS.seq ?_
      refine LS.region rfl ?_
      refine OS.pure rfl (fun _ => rfl) rfl ?_
      refine OS.call noGo rfl (fun _ => rfl) ((rOK_ct).mono ?_)
      rintro u L' ⟨rfl, rfl⟩
      refine ⟨_, rfl, ?_⟩
      refine OS.pure rfl (fun _ => rfl) rfl ?_
      refine OS.pure rfl (fun _ => rfl) rfl ?_
      refine OS.skip rfl rfl ?_
      refine OS.skip rfl rfl ?_
      refine OS.skip rfl rfl ?_
      refine OS.pure rfl (fun _ => rfl) rfl ?_
      refine OS.nil ?_
      repeat refine LS.seq ?_
      refine LS.cond rfl (fun hc => ?_) (fun hc => ?_)
      · repeat refine LS.seq ?_
        refine LS.region rfl ?_
        refine OS.pure rfl (fun _ => rfl) rfl ?_
        refine OS.write rfl (e_store 2 rfl rfl rfl rfl rfl rfl rfl rfl) rfl ?_
        refine OS.pure rfl (fun _ => rfl) rfl ?_
        refine OS.nil ?_
        refine LS.ret ⟨_, res_cell2 2 rfl rfl rfl rfl rfl, ?_⟩
        exact .inl ⟨hd, rfl, [_, _, _] ++ (R1 ++ (Rb ++ X)), by simp only [List.append_assoc]; rfl⟩
      · cases hc
    | false =>
      have hje : j = c := by simp at hgo; omega
      subst hje
      rw [Nat.sub_self] at hloop
      simp only [rLoop] at hloop
      have hn1 : (rNode bs).1 = ⟨xl, ks, vs, kids⟩ := by rw [← hloop]
      have hn2 : (rNode bs).2.2 = false := by rw [← hloop]
      have hnv : ∀ (Z : RL), NV (Z ++ (R1 ++ (Rb ++ (X ++ L)))) ⟨xl, ks, vs, kids⟩ m1 m2 m3 := fun Z => rdn_nvB hn (show j ≤ 300 by omega) hRB' hk hor (fun p hp => by simp [hp]) (fun p hp => by simp [hp])
      repeat refine LS.seq ?_
      refine LS.region rfl ?_
      refine OS.pure rfl (fun _ => rfl) rfl ?_
      refine OS.call noGo rfl (fun _ => rfl) ((rOK_ct).mono ?_)
      rintro u L' ⟨rfl, rfl⟩
      refine ⟨_, rfl, ?_⟩
      refine OS.pure rfl (fun _ => rfl) rfl ?_
      refine OS.pure rfl (fun _ => rfl) rfl ?_
      refine OS.read rfl (e_load 1 rfl rfl rfl rfl rfl) rfl ?_
      refine OS.call noGo rfl (fun _ => rfl) (((rMay_ct (n := ⟨xl, ks, vs, kids⟩) (hnv [_, _, _]))).mono ?_)
      rintro u L' ⟨rfl, e₁⟩
      subst e₁
      refine ⟨_, rfl, ?_⟩
      refine OS.pure rfl (fun _ => rfl) rfl ?_
      refine OS.pure rfl (fun _ => rfl) rfl ?_
      refine OS.nil ?_
      cases hm : mayN ⟨xl, ks, vs, kids⟩ with
      | false =>
        have hd : decB bs = none := by
          cases hd : decB bs with
          | none => rfl
          | some m => have := dec_is hd; rw [hn1] at this; rw [this.1, hm] at this; cases this.2
        repeat refine LS.seq ?_
        refine LS.cond rfl (fun hc => ?_) (fun hc => ?_)
        · repeat refine LS.seq ?_
          refine LS.region rfl ?_
          refine OS.pure rfl (fun _ => rfl) rfl ?_
          refine OS.write rfl (e_store 2 rfl rfl rfl rfl rfl rfl rfl rfl) rfl ?_
          refine OS.pure rfl (fun _ => rfl) rfl ?_
          refine OS.nil ?_
          refine LS.ret ⟨_, res_cell2 2 rfl rfl rfl rfl rfl, ?_⟩
          exact .inl ⟨hd, rfl, [_, _, _] ++ (R1 ++ (Rb ++ X)), by simp only [List.append_assoc]; rfl⟩
        · cases hc
      | true =>
        repeat refine LS.seq ?_
        refine LS.cond rfl (fun hc => ?_) (fun hc => ?_)
        · cases hc
        refine LS.skip ?_
        repeat refine LS.seq ?_
        refine LS.region rfl ?_
        refine OS.read rfl (e_load 1 rfl rfl rfl rfl rfl) rfl ?_
        refine OS.call noGo rfl (fun _ => rfl) (((rEncode_ct (n := ⟨xl, ks, vs, kids⟩) (hnv [_, _, _]) (by show ks.length ≤ 1000000; omega))).mono ?_)
        rintro u L' ⟨uc, rfl, hcase⟩
        refine ⟨_, rfl, ?_⟩
        refine OS.pure rfl (fun _ => rfl) rfl ?_
        refine OS.pure rfl (fun _ => rfl) rfl ?_
        refine OS.pure rfl (fun _ => rfl) rfl ?_
        refine OS.pure rfl (fun _ => rfl) rfl ?_
        refine OS.pure rfl (fun _ => rfl) rfl ?_
        refine OS.nil ?_
        have hef := @err_fits ⟨xl, ks, vs, kids⟩
        rcases hcase with ⟨hf, rfl, rfl⟩ | ⟨hf, r, rfl, rfl⟩
        · rw [hf] at hef
          have hef' : (!ieqB (errN ⟨xl, ks, vs, kids⟩) ((0 : Nat) : Int)) = true := by rw [hef]; rfl
          have hd : decB bs = none := by
            cases hd : decB bs with
            | none => rfl
            | some m => have h1 := dec_is hd; have h2 := decB_enc hd; rw [h1.1, hn1, hf] at h2; cases h2.1
          repeat refine LS.seq ?_
          refine LS.region rfl ?_
          refine OS.pure rfl (fun _ => rfl) rfl ?_
          refine OS.pure rfl (e_is (fun _ => rfl) (congrArg Value.bool hef')) rfl ?_
          refine OS.pure rfl (fun _ => rfl) rfl ?_
          refine OS.skip rfl rfl ?_
          refine OS.skip rfl rfl ?_
          refine OS.skip rfl rfl ?_
          refine OS.skip rfl rfl ?_
          refine OS.skip rfl rfl ?_
          refine OS.pure rfl (fun _ => rfl) rfl ?_
          refine OS.nil ?_
          repeat refine LS.seq ?_
          refine LS.cond rfl (fun hc => ?_) (fun hc => ?_)
          · repeat refine LS.seq ?_
            refine LS.region rfl ?_
            refine OS.pure rfl (fun _ => rfl) rfl ?_
            refine OS.write rfl (e_store 2 rfl rfl rfl rfl rfl rfl rfl rfl) rfl ?_
            refine OS.pure rfl (fun _ => rfl) rfl ?_
            refine OS.nil ?_
            refine LS.ret ⟨_, res_cell2 2 rfl rfl rfl rfl rfl, ?_⟩
            exact .inl ⟨hd, rfl, [_, _, _] ++ (R1 ++ (Rb ++ X)), by simp only [List.append_assoc]; rfl⟩
          · cases hc
        · rw [hf] at hef
          have hef' : (!ieqB (errN ⟨xl, ks, vs, kids⟩) ((0 : Nat) : Int)) = false := by rw [hef]; rfl
          have hbq : (!bytesEq (encN ⟨xl, ks, vs, kids⟩) bs) = !decide (encN ⟨xl, ks, vs, kids⟩ = bs) := by rw [beqT]
          repeat refine LS.seq ?_
          refine LS.region rfl ?_
          refine OS.pure rfl (fun _ => rfl) rfl ?_
          refine OS.pure rfl (e_is (fun _ => rfl) (congrArg Value.bool hef')) rfl ?_
          refine OS.pure rfl (fun _ => rfl) rfl ?_
          refine OS.pure rfl (fun _ => rfl) rfl ?_
          refine OS.read rfl (e_textSV brow_sv rfl rfl rfl rfl rfl) rfl ?_
          refine OS.pure rfl (fun _ => rfl) rfl ?_
          refine OS.read rfl (e_textSV (n := bs.length) (bs := bs) (hsv.mono fun p hp => by simp [hp]) rfl rfl rfl rfl rfl) rfl ?_
          refine OS.pure rfl (e_is (fun _ => rfl) (congrArg Value.bool hbq)) rfl ?_
          refine OS.pure rfl (fun _ => rfl) rfl ?_
          refine OS.nil ?_
          by_cases he : encN ⟨xl, ks, vs, kids⟩ = bs
          · have h256 : bs.length = 256 := by rw [← he]; exact enc_len hf
            have hNB : NB ⟨xl, ks, vs, kids⟩ := ⟨by show ks.length ≤ 300; omega, by show vs.length ≤ 300; omega, by show kids.length ≤ 300; omega, fun k hk => by have := g4 k hk; omega, fun k hk => by have := g5 k hk; omega⟩
            have hd : decB bs = some ⟨xl, ks, vs, kids⟩ := by
              have := dec_iff hn2 (by rw [hn1]; exact hm) (by rw [hn1]; exact hf) (by rw [hn1]; exact he)
              rw [this, hn1]
            rw [decide_eq_true he]
            repeat refine LS.seq ?_
            refine LS.cond rfl (fun hc => ?_) (fun hc => ?_)
            · cases hc
            refine LS.skip ?_
            repeat refine LS.seq ?_
            refine LS.region rfl ?_
            refine OS.read rfl (e_load 2 rfl rfl rfl rfl rfl) rfl ?_
            refine OS.write rfl (e_store 3 (n := 4) rfl rfl rfl rfl rfl (nd_one s1 s2 s3) rfl rfl) rfl ?_
            refine OS.pure rfl (fun _ => rfl) rfl ?_
            refine OS.nil ?_
            refine LS.ret ⟨_, res_cell2 3 rfl rfl rfl rfl rfl, ?_⟩
            exact .inr ⟨_, m1, m2, m3, [_, _, _, _], R1, Rb, X, hd, hNB, rfl, rfl, hk, hor⟩
          · have hd : decB bs = none := by
              cases hd : decB bs with
              | none => rfl
              | some m => have h1 := dec_is hd; have h2 := decB_enc hd; rw [h1.1, hn1] at h2; exact absurd h2.2 he
            rw [decide_eq_false he]
            repeat refine LS.seq ?_
            refine LS.cond rfl (fun hc => ?_) (fun hc => ?_)
            · repeat refine LS.seq ?_
              refine LS.region rfl ?_
              refine OS.pure rfl (fun _ => rfl) rfl ?_
              refine OS.write rfl (e_store 3 rfl rfl rfl rfl rfl rfl rfl rfl) rfl ?_
              refine OS.pure rfl (fun _ => rfl) rfl ?_
              refine OS.nil ?_
              refine LS.ret ⟨_, res_cell2 3 rfl rfl rfl rfl rfl, ?_⟩
              exact .inl ⟨hd, rfl, [_, _, _, _] ++ (R1 ++ (Rb ++ X)), by simp only [List.append_assoc]; rfl⟩
            · cases hc
end Go.Proofs.Ytdffhllecojgcaa
