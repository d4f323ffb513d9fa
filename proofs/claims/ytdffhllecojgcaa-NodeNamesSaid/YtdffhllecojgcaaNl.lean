/- Layer 6, the program's: the node of bytes. -/
import Derived.Test.YtdffhllecojgcaaNk
namespace Go.Proofs.Ytdffhllecojgcaa
open Go.Am
open Go.Proofs.Ytdffhllecojgcaa.T
set_option linter.unusedVariables false
set_option maxRecDepth 20000

theorem nd_one {b : Bool} {m1 m2 m3 : Value} (s1 : IsSl m1) (s2 : IsSl m2) (s3 : IsSl m3) : (Nat.beq (ndV b m1 m2 m3).cells.toList.length 4 && allOne (ndV b m1 m2 m3).cells.toList) = true := by
  rcases s1 with rfl | ⟨q1, o1, n1, c1, rfl⟩ <;> rcases s2 with rfl | ⟨q2, o2, n2, c2, rfl⟩ <;> rcases s3 with rfl | ⟨q3, o3, n3, c3, rfl⟩ <;> rfl
theorem RB.key {B j : Nat} {x : Nd × St} (h : RB B j x) (hk : x.1.ks.length ≤ j) : RB B (j + 1) (rKey x) := by
  obtain ⟨h1, h2, h3, h4, h5, h6⟩ := h
  refine ⟨?_, ?_, ?_, ?_, ?_, ?_⟩
  · show (_ ++ [_]).length ≤ _; simp; exact h1
  · show x.1.vs.length ≤ _; omega
  · show x.1.kids.length ≤ _; omega
  · intro k hk
    rcases List.mem_append.1 hk with hk | hk
    · exact h4 k hk
    · rw [List.mem_singleton] at hk; subst hk; exact Nat.le_trans rdT_le h6
  · exact h5
  · exact Nat.le_trans tk_le h6
theorem rBeh_leaf {x : Nd × St} : (rBeh x).1.leaf = x.1.leaf := by unfold rBeh; split <;> rfl
theorem rBeh_ks {x : Nd × St} : (rBeh x).1.ks = x.1.ks := by unfold rBeh; split <;> rfl
theorem RB.beh {B j : Nat} {x : Nd × St} (h : RB B j x) (hv : x.1.vs.length < j) (hz : x.1.kids.length ≤ j) : RB B j (rBeh x) := by
  obtain ⟨h1, h2, h3, h4, h5, h6⟩ := h
  unfold rBeh
  split
  · refine ⟨h1, ?_, h3, h4, ?_, Nat.le_trans tk_le h6⟩
    · show (_ ++ [_]).length ≤ _; simp; exact hv
    · intro k hk
      rcases List.mem_append.1 hk with hk | hk
      · exact h5 k hk
      · rw [List.mem_singleton] at hk; subst hk; exact Nat.le_trans rdT_le h6
  · exact ⟨h1, h2, by show (_ ++ [_]).length ≤ _; simp; exact hz, h4, h5, Nat.le_trans tk_le h6⟩
/-- What was read: its lists lie in rows of their own. -/
def RdN (M : RL) (nd : Nd) (u : Value) (L' : RL) : Prop := ∃ m1 m2 m3 R1 Rb, u = ndV nd.leaf m1 m2 m3 ∧ L' = R1 ++ (Rb ++ M) ∧ GV 9 1 [] m1 nd.ks.length (tx nd.ks) R1 ∧
  ((nd.leaf = true ∧ GV 9 1 [] m2 nd.vs.length (tx nd.vs) Rb ∧ m3 = .slice none 0 0 ∧ nd.kids = []) ∨ (nd.leaf = false ∧ GV 3 1 [] m3 nd.kids.length (nums nd.kids) Rb ∧ m2 = .slice none 0 0 ∧ nd.vs = []))
theorem rdn_sl {n : Nd} {R1 Rb : RL} {m1 m2 m3 : Value} (hk : GV 9 1 [] m1 n.ks.length (tx n.ks) R1) (hor : (n.leaf = true ∧ GV 9 1 [] m2 n.vs.length (tx n.vs) Rb ∧ m3 = .slice none 0 0 ∧ n.kids = []) ∨ (n.leaf = false ∧ GV 3 1 [] m3 n.kids.length (nums n.kids) Rb ∧ m2 = .slice none 0 0 ∧ n.vs = [])) :
    IsSl m1 ∧ IsSl m2 ∧ IsSl m3 := by
  refine ⟨isSl hk.sv, ?_⟩
  rcases hor with ⟨_, hg, rfl, _⟩ | ⟨_, hg, rfl, _⟩
  · exact ⟨isSl hg.sv, .inl rfl⟩
  · exact ⟨.inl rfl, isSl hg.sv⟩
theorem cAt_max {bs : List UInt8} {most : Int} (h : 0 ≤ most) : ((cAt bs most).1 : Int) ≤ most := by
  unfold cAt
  split
  · rename_i hc; exact hc.2.1
  · exact h
theorem read_ct {M : RL} {rr : Nat} {v : Value} {bs : List UInt8} (hv : OV M v bs) (hn : bs.length ≤ 100000) :
    CS Try.prog 30 [.pointer (some ⟨rr, 0, none⟩)] ((rr, rdRowOf v false) :: M) fun u L' => ∃ v' L'', L' = (rr, rdRowOf v' (rNode bs).2.2) :: L'' ∧ OV M v' (rNode bs).2.1 ∧ RdN M (rNode bs).1 u L'' ∧ RB bs.length 256 (rNode bs) := by
  suffices g : CS Try.prog 30 [.pointer (some ⟨rr, 0, none⟩)] ((rr, rdRowOf v false) :: M) fun u L' => ∃ v' L'' x y z, L' = (rr, rdRowOf v' (rNode bs).2.2) :: x :: y :: z :: L'' ∧ OV M v' (rNode bs).2.1 ∧ RdN M (rNode bs).1 u L'' ∧ RB bs.length 256 (rNode bs) by
    refine g.less fun u L' ⟨v', L'', x, y, z, h1, h2, h3, h4⟩ => ⟨_, ?_, v', L'', rfl, h2, h3, h4⟩
    rw [h1]
    exact Sub.cons (Sub.suffix (X := [x, y, z]))
  have hTM : ∀ (X : RL) p, p ∈ M → p ∈ X ++ M := fun X p hp => List.mem_append_right _ hp
  refine CS.mk (fn := Try.f30) rfl rfl rfl rfl ?_
  repeat refine LS.seq ?_
  refine LS.region rfl ?_
  refine OS.fresh rfl (e_new (fun _ => rfl) rfl) (fun _ => rfl) (fun rb => ?_)
  refine OS.fresh rfl (e_new (fun _ => rfl) rfl) (fun _ => rfl) (fun ro => ?_)
  refine OS.nil ?_
  repeat refine LS.seq ?_
  refine LS.region rfl ?_
  refine OS.sub (Sub.pulls [2] rfl) ?_
  refine OS.read rfl (e_load 2 rfl rfl rfl rfl rfl) rfl ?_
  refine OS.call noGo rfl (fun _ => rfl) (((RFlag_ct (T := M) (bs := bs) (f := false) (fun p hp => hTM [_, _] p hp) hv (by omega))).mono ?_)
  rintro u L' ⟨rfl, v1, rfl, hv1⟩
  refine ⟨_, rfl, ?_⟩
  change OV M v1 (rHead bs).2.1 at hv1
  refine OS.pure rfl (fun _ => rfl) rfl ?_
  refine OS.fresh rfl (e_new (fun _ => rfl) rfl) (fun _ => rfl) (fun rn => ?_)
  refine OS.write rfl (e_store 0 rfl rfl rfl rfl rfl rfl rfl rfl) rfl ?_
  refine OS.nil ?_
  repeat refine LS.seq ?_
  refine LS.region rfl ?_
  refine OS.sub (Sub.pulls [1] rfl) ?_
  refine OS.read rfl (e_load 3 rfl rfl rfl rfl rfl) rfl ?_
  have hs1 : (rHead bs).2.1.length ≤ bs.length := tk_le
  refine OS.call noGo rfl (fun _ => rfl) (((RCount_ct (T := M) (bs := (rHead bs).2.1) (f := (rHead bs).2.2) (most := 256) (by decide) (by decide) (fun p hp => hTM [_, _, _] p hp) hv1 (by omega))).mono ?_)
  rintro u L' ⟨rfl, v2, rfl, hv2⟩
  refine ⟨_, rfl, ?_⟩
  change OV M v2 (rCnt bs).2.1 at hv2
  have hs2 : (rCnt bs).2.1.length ≤ bs.length := Nat.le_trans tk_le hs1
  have hc := rdC_le (s := (rHead bs).2) (most := 256) (by decide)
  change 0 ≤ (rCnt bs).1 ∧ (rCnt bs).1 ≤ 256 at hc
  refine OS.pure rfl (fun _ => rfl) rfl ?_
  refine OS.nil ?_
  repeat refine LS.seq ?_
  refine LS.region rfl ?_
  refine OS.sub (Sub.pulls [3, 2, 2] rfl) ?_
  refine OS.pure rfl (fun _ => rfl) rfl ?_
  refine OS.pure rfl (fun _ => rfl) rfl ?_
  refine OS.nil ?_
  repeat refine LS.seq ?_
  refine LS.region rfl ?_
  refine OS.pure rfl (fun _ => rfl) rfl ?_
  refine OS.read rfl (e_load 1 rfl rfl rfl rfl rfl) rfl ?_
  refine OS.pure rfl (fun _ => rfl) rfl ?_
  refine OS.nil ?_
  have hlf : ∃ lf, (rHead bs).1 = lf := ⟨_, rfl⟩
  obtain ⟨lf, hlf⟩ := hlf
  have hst : (rStart bs).1.leaf = lf := by unfold rStart; rw [hlf]; cases lf <;> rfl
  repeat refine LS.seq ?_
  refine LS.mid [1, 2, 3, 4, 5] (fun a L' => RdS M M rr rn rb ro (ndRow false (.slice none 0 0) (.slice none 0 0) (.slice none 0 0)) (rStart bs) L' ∧ RB bs.length 0 (rStart bs) ∧ a = [.chan none, .pointer (some ⟨rb, 0, none⟩), .pointer (some ⟨ro, 0, none⟩), .pointer (some ⟨rn, 0, none⟩), .int .i64 (rCnt bs).1, .func (.func (behF lf)) #[] #[.pointer (some ⟨rn, 0, none⟩), .pointer (some ⟨rb, 0, none⟩)], .chan none, .chan none, .chan none, .chan none, .chan none, .chan none, .chan none, .chan none, .chan none, .chan none, .chan none, .chan none, .chan none, .chan none, .chan none, .chan none, .chan none, .chan none, .chan none, .chan none, .chan none, .chan none, .chan none, .chan none, .chan none, .chan none]) ?_ ?_
  · refine LS.cond (b := !(rHead bs).1) rfl (fun hc0 => ?_) (fun hc0 => ?_)
    · have h0 : (rHead bs).1 = false := by simpa using hc0
      obtain rfl : lf = false := by rw [← hlf, h0]
      have hx : rStart bs = rBeh (⟨false, [], [], []⟩, (rCnt bs).2) := by unfold rStart; rw [h0]; rfl
      have hRB : RB bs.length 0 ((⟨false, [], [], []⟩, (rCnt bs).2) : Nd × St) := ⟨Nat.le_refl _, Nat.le_refl _, Nat.zero_le _, by simp, by simp, hs2⟩
      have hRd : RdS M M rr rn rb ro (ndRow false (.slice none 0 0) (.slice none 0 0) (.slice none 0 0)) (⟨false, [], [], []⟩, (rCnt bs).2) ((rr, rdRowOf v2 (rCnt bs).2.2) :: (rn, ndRow false (.slice none 0 0) (.slice none 0 0) (.slice none 0 0)) :: (rb, pRow rr) :: (ro, ndRow false (.slice none 0 0) (.slice none 0 0) (.slice none 0 0)) :: M) :=
        ⟨v2, _, _, _, [], [], rfl, hv2, .inl ⟨rfl, rfl, rfl, rfl⟩, .inr ⟨rfl, .inl ⟨rfl, rfl, rfl, rfl⟩, rfl, rfl⟩⟩
      have hrow : (rn, ndRow (rHead bs).1 (.slice none 0 0) (.slice none 0 0) (.slice none 0 0)) = (rn, ndRow false (.slice none 0 0) (.slice none 0 0) (.slice none 0 0)) := by rw [h0]
      have hcall := beh_ct (fun p hp => hp) (by omega : bs.length ≤ 100000) (by decide : 0 ≤ 50000) hRB hRd
      rw [← hx] at hcall
      rw [← hrow] at hcall
      repeat refine LS.seq ?_
      refine LS.region rfl ?_
      refine OS.pure rfl (fun _ => rfl) rfl ?_
      refine OS.pure rfl (fun _ => rfl) rfl ?_
      refine OS.nil ?_
      repeat refine LS.seq ?_
      refine LS.region rfl ?_
      refine OS.pure rfl (fun _ => rfl) rfl ?_
      refine OS.call noGo rfl (fun _ => rfl) ((hcall).mono ?_)
      rintro u L' hL
      refine ⟨_, rfl, ?_⟩
      refine OS.nil ?_
      refine ⟨hL, ?_, rfl⟩
      rw [hx]
      exact ⟨Nat.le_refl _, Nat.le_refl _, Nat.le_refl _, by simp [rBeh], by simp [rBeh], Nat.le_trans tk_le hs2⟩
    · have h0 : (rHead bs).1 = true := by simpa using hc0
      obtain rfl : lf = true := by rw [← hlf, h0]
      have hx : rStart bs = (⟨true, [], [], []⟩, (rCnt bs).2) := by unfold rStart; rw [h0]; rfl
      refine LS.skip ?_
      refine ⟨?_, ?_, rfl⟩
      · rw [hx]
        exact ⟨v2, .slice none 0 0, .slice none 0 0, .slice none 0 0, [], [], by rw [← h0]; rfl, hv2, .inl ⟨rfl, rfl, rfl, rfl⟩, .inl ⟨rfl, .inl ⟨rfl, rfl, rfl, rfl⟩, rfl, rfl⟩⟩
      · rw [hx]
        exact ⟨Nat.le_refl _, Nat.le_refl _, Nat.zero_le _, by simp, by simp, hs2⟩
  rintro a L' ⟨hRd0, hRB0, rfl⟩
  obtain ⟨c, hcn⟩ := Int.eq_ofNat_of_zero_le hc.1
  have hct : (rCnt bs).1.toNat = c := by omega
  rw [hcn]
  repeat refine LS.seq ?_
  refine LS.region rfl ?_
  refine OS.pure rfl (fun _ => rfl) rfl ?_
  refine OS.pure rfl (fun _ => rfl) rfl ?_
  refine OS.nil ?_
  repeat refine LS.seq ?_
  refine LS.block ?_
  refine LS.loopJ [1, 2, 3, 5, 18, 19] (fun q a L' => ∃ (j : Nat) (x : Nd × St), q = c - j ∧ j ≤ c ∧ rLoop (c - j) x = rNode bs ∧ RdS M M rr rn rb ro (ndRow false (.slice none 0 0) (.slice none 0 0) (.slice none 0 0)) x L' ∧ RB bs.length j x ∧ x.1.leaf = lf ∧
    a = [.chan none, .pointer (some ⟨rb, 0, none⟩), .pointer (some ⟨ro, 0, none⟩), .pointer (some ⟨rn, 0, none⟩), .chan none, .func (.func (behF lf)) #[] #[.pointer (some ⟨rn, 0, none⟩), .pointer (some ⟨rb, 0, none⟩)], .chan none, .chan none, .chan none, .chan none, .chan none, .chan none, .chan none, .chan none, .chan none, .chan none, .chan none, .chan none, .int .i64 (c : Nat), .int .i64 (j : Nat), .chan none, .chan none, .chan none, .chan none, .chan none, .chan none, .chan none, .chan none, .chan none, .chan none, .chan none, .chan none]) (n := c) rfl ⟨0, rStart bs, rfl, by omega, by unfold rNode; rw [hct]; rfl, hRd0, hRB0, hst, rfl⟩ ?_
  rintro q a L' ⟨j, x, rfl, hj, hloop, hRd, hRB, hxl, rfl⟩
  repeat refine LS.seq ?_
  refine LS.region rfl ?_
  refine OS.pure rfl (fun _ => rfl) rfl ?_
  refine OS.nil ?_
  repeat refine LS.seq ?_
  refine LS.cond rfl (fun hcj => ?_) (fun hcj => ?_)
  · have hcj : (j : Int) < c := lt_of hcj
    have hjc : j < c := by omega
    obtain ⟨⟨xl, ks, vs, kids⟩, s⟩ := x
    obtain ⟨w, m1, m2, m3, R1, Rb, rfl, hw, hk, hor⟩ := hRd
    have hRB' := hRB
    obtain ⟨g1, g2, g3, g4, g5, g6⟩ := hRB
    simp only at hxl hw hk hor g1 g2 g3 g4 g5 g6
    subst hxl
    have e1 : tx ks ++ [txt (rdT 32 s).1] = tx (ks ++ [(rdT 32 s).1]) := by simp [tx]
    have hkey := hRB'.key g1
    have hbeh := hkey.beh (show vs.length < j + 1 by omega) (show kids.length ≤ j + 1 by omega)
    refine LS.skip ?_
    repeat refine LS.seq ?_
    refine LS.block ?_
    repeat refine LS.seq ?_
    refine LS.drawn noGo mixed [(0, false), (1, false), (2, false), (3, true), (4, true), (5, true), (6, false), (7, true)] rfl rfl (by kernel_rfl) ?_
    refine ODS.pure rfl rfl (fun _ => rfl) rfl ?_
    refine ODS.read rfl rfl (e_load 1 rfl rfl rfl rfl rfl) rfl ?_
    refine ODS.read rfl rfl (e_load 2 rfl rfl rfl rfl rfl) rfl ?_
    refine ODS.call rfl rfl (fun _ => rfl) (((RStr_ct (T := M) (bs := s.1) (f := s.2) (most := 32) (by decide) (by decide) (fun p hp => by simp [hp]) hw (by omega))).mono ?_)
    rintro u L' ⟨rfl, v', rfl, hv'⟩
    refine ⟨_, rfl, Keep.gone rfl (Keep.cons rfl (e_load 1 rfl rfl rfl rfl rfl) Keep.nil), ?_⟩
    refine ODS.fresh rfl rfl (e_new (fun _ => rfl) rfl) (fun _ => rfl) (fun _ => Keep.gone rfl (Keep.cons rfl (e_load 2 rfl rfl rfl rfl rfl) Keep.nil)) (fun rq => ?_)
    refine ODS.fresh rfl rfl (e_appendGV [(rq, _), (rr, _), (rn, _), (rb, _), (ro, _)] (F := Rb ++ M) (e := 9) (cs := tx ks) (n := ks.length) (m := 1) (sz := 1) (bts := 16) (GV.appendR (Rb ++ M) hk) (SV.row (sz := 1) (n := 1) (List.mem_cons_self ..) rfl) (by omega) rfl rfl rfl rfl (by omega) (by omega)) (fun _ => rfl) (fun _ => Keep.gone rfl (Keep.gone rfl Keep.nil)) (fun r2 => ?_)
    refine ODS.pure rfl rfl (fun _ => rfl) rfl ?_
    refine ODS.write rfl rfl (e_store 3 rfl rfl rfl rfl rfl rfl rfl rfl) rfl (Keep.gone rfl (Keep.gone rfl Keep.nil)) ?_
    refine ODS.nil ?_
    have hRd1 : RdS M M rr rn rb ro (ndRow false (.slice none 0 0) (.slice none 0 0) (.slice none 0 0)) (rKey (⟨xl, ks, vs, kids⟩, s)) ((rr, rdRowOf v' (rdT 32 s).2.2) :: (rn, ndRow xl (.slice (some ⟨r2, 0, none⟩) (ks.length + 1) openCap) m2 m3) :: (rb, pRow rr) :: (ro, ndRow false (.slice none 0 0) (.slice none 0 0) (.slice none 0 0)) :: (r2, .cells 9 (tx ks ++ [txt (rdT 32 s).1])) :: (Rb ++ M)) := by
      refine ⟨v', _, m2, m3, [(r2, .cells 9 (tx ks ++ [txt (rdT 32 s).1]))], Rb, rfl, hv', ?_, hor⟩
      show GV _ 1 [] _ (ks ++ [(rdT 32 s).1]).length (tx (ks ++ [(rdT 32 s).1])) _
      rw [← e1, List.length_append]
      exact .inr ⟨r2, rfl, by simp, rfl⟩
    repeat refine LS.seq ?_
    refine LS.region rfl ?_
    refine OS.sub (Sub.pulls [5, 5, 5, 5] rfl) ?_
    refine OS.sub (Sub.drop 5 rfl) ?_
    refine OS.pure rfl (fun _ => rfl) rfl ?_
    refine OS.call noGo rfl (fun _ => rfl) (((beh_ct (fun p hp => hp) (by omega : bs.length ≤ 100000) (by omega : j + 1 ≤ 50000) hkey hRd1)).mono ?_)
    rintro u L' hL
    refine ⟨_, rfl, ?_⟩
    refine OS.nil ?_
    repeat refine LS.seq ?_
    refine LS.region rfl ?_
    refine OS.pure rfl (e_add (m := j) (n := 1) rfl rfl rfl (in_i64 (by omega) (by omega))) rfl ?_
    refine OS.pure rfl (fun _ => rfl) rfl ?_
    refine OS.nil ?_
    refine ⟨c - (j + 1), by omega, j + 1, rBeh (rKey (⟨xl, ks, vs, kids⟩, s)), rfl, by omega, ?_, hL, hbeh, rBeh_leaf, rfl⟩
    rw [← hloop, show c - j = (c - (j + 1)) + 1 by omega]
    rfl
  · have hcj : (c : Int) ≤ (j : Int) := nlt_of hcj
    have hje : j = c := by omega
    subst hje
    rw [Nat.sub_self] at hloop
    simp only [rLoop] at hloop
    subst hloop
    obtain ⟨w, m1, m2, m3, R1, Rb, rfl, hw, hk, hor⟩ := hRd
    obtain ⟨s1, s2, s3⟩ := rdn_sl hk hor
    refine LS.exit ?_
    repeat refine LS.seq ?_
    refine LS.region rfl ?_
    refine OS.read rfl (e_load 1 rfl rfl rfl rfl rfl) rfl ?_
    refine OS.write rfl (e_store 3 (n := 4) rfl rfl rfl rfl rfl (nd_one s1 s2 s3) rfl rfl) rfl ?_
    refine OS.nil ?_
    refine LS.ret ⟨_, res_cell 3 rfl rfl rfl rfl, ?_⟩
    exact ⟨w, _, _, _, _, rfl, hw, ⟨m1, m2, m3, R1, Rb, rfl, rfl, hk, hor⟩, ⟨by have := hRB.k; omega, by have := hRB.v; omega, by have := hRB.z; omega, hRB.kl, hRB.vl, hRB.s⟩⟩
end Go.Proofs.Ytdffhllecojgcaa
