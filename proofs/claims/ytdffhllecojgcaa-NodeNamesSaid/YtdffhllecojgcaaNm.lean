/- Layer 6, the program's: Decode. -/
import Derived.Test.YtdffhllecojgcaaNl
namespace Go.Am
theorem Sub.app {A B : RL} (X : RL) (s : Sub A B) : Sub (X ++ A) (X ++ B) := by
  obtain ⟨Y, hY⟩ := s
  exact ⟨Y, by rw [List.append_assoc]; exact hY.append_left X⟩
theorem res_cell2 {P : Program} {a : Slots} {L : RL} (i : Nat) {x y r off : Nat} {t : TypeId} {row : ARow} {cs : List Value} {v u : Value} (hx : a[x]? = some (.pointer (some ⟨r, off, none⟩))) (hL : L[i]? = some (r, row)) (hc : rdRow row = some cs) (hv : partB P t cs off = some v) (hy : a[y]? = some u) : ∀ h, Has h L → resultsB P a h [.cell x t, .tmp y] = some [v, u] := by
  intro h H
  simp only [resultsB, hx, hy, loadB, H.read hL hc, hv]
end Go.Am
namespace Go.Proofs.Ytdffhllecojgcaa
open Go.Am
open Go.Proofs.Ytdffhllecojgcaa.T
set_option linter.unusedVariables false
set_option maxRecDepth 20000

/-- Bytes in a list that may be cut. -/
def BV (L : RL) (v : Value) (bs : List UInt8) : Prop := OV L v bs ∨ (SV 1 L v bs.length (byteCells bs) ∧ ∀ r off cap, v = .slice (some ⟨r, off, none⟩) bs.length cap → cap < openCap ∧ bs.length ≤ cap)
theorem BV.sv {L : RL} {v : Value} {bs : List UInt8} (h : BV L v bs) : SV 1 L v bs.length (byteCells bs) := by
  rcases h with h | h
  · exact h.sv
  · exact h.1
theorem BV.mono {L L' : RL} {v : Value} {bs : List UInt8} (h : BV L v bs) (hm : ∀ p, p ∈ L → p ∈ L') : BV L' v bs := by
  rcases h with h | h
  · exact .inl (h.mono hm)
  · exact .inr ⟨h.1.mono hm, h.2⟩
theorem BV.cons {L : RL} {x : Nat × ARow} {v : Value} {bs : List UInt8} (h : BV L v bs) : BV (x :: L) v bs := h.mono fun _ hp => List.mem_cons_of_mem _ hp
theorem OS.cutX {P : Program} {ops rest : List Oper} {o : Oper} {a : Slots} {L : RL} {K : Slots → RL → Prop} {t : TypeId} {x : Operand} {lo hi : Option Operand} {lo' hi' : Option Value} {v : Value} {l u : Nat} {bs : List UInt8} (hs : BV L v bs) (hw : wantedB ops o a = true) (ho : o.op = .slice t x lo hi none) (hx : aev a x = some v)
    (hlo : optEv a lo = some lo') (hhi : optEv a hi = some hi') (bl : boundB lo' 0 = some l) (bu : boundB hi' bs.length = some u) (ht : P.underlying t = some (.slice 5)) (hz : sizeB P 5 = some 1) (hu : u ≤ bs.length) (hl : l ≤ u)
    (hk : ∀ v', SV 1 L v' (u - l) (byteCells ((bs.drop l).take (u - l))) → ∃ a₁, putAt a o.dst v' = some a₁ ∧ OS P ops rest a₁ L K) : OS P ops (o :: rest) a L K := by
  rcases hs with hs | ⟨hs, hcap⟩
  · refine OS.cutB hs hw ho hx hlo hhi bl bu ht hz hu hl fun v' hv' => hk v' ?_
    have hlen : ((bs.drop l).take (u - l)).length = u - l := by simp; omega
    have := hv'.sv
    rw [hlen] at this; exact this
  · obtain ⟨v', h1, h2⟩ := e_sliceSV hs (fun r off cap row cs₀ h _ _ => .inl (hcap r off cap h)) ho hx hlo hhi bl bu ht hz hu hl
    simp only [Nat.mul_one] at h1
    have h1' : SV 1 L v' (u - l) (byteCells ((bs.drop l).take (u - l))) := by
      have e : byteCells ((bs.drop l).take (u - l)) = ((byteCells bs).drop l).take (u - l) := by simp [byteCells, List.map_take, List.map_drop]
      rw [e]; exact h1
    obtain ⟨a₁, ep, k⟩ := hk v' h1'
    exact OS.read hw h2 ep k


theorem tk_suf {α : Type} {z t : α} {k : Nat} {s : St} : (tk z t k s).2.1 <:+ s.1 := by
  unfold tk
  split
  · exact List.suffix_refl _
  · split
    · exact List.nil_suffix
    · exact List.drop_suffix _ _
theorem rBeh_suf {x : Nd × St} : (rBeh x).2.1 <:+ x.2.1 := by unfold rBeh; split <;> exact tk_suf
theorem rLoop_suf : ∀ {k : Nat} {x : Nd × St}, (rLoop k x).2.1 <:+ x.2.1
  | 0, _ => List.suffix_refl _
  | k + 1, x => (rLoop_suf (k := k)).trans (rBeh_suf.trans (tk_suf (s := x.2)))
theorem rNode_suf (bs : List UInt8) : (rNode bs).2.1 <:+ bs := by
  refine rLoop_suf.trans ?_
  have h1 : (rHead bs).2.1 <:+ bs := tk_suf (s := (bs, false))
  have h2 : (rCnt bs).2.1 <:+ bs := (tk_suf (s := (rHead bs).2)).trans h1
  unfold rStart
  split
  · exact h2
  · exact rBeh_suf.trans h2
theorem drop_suf {s bs : List UInt8} (h : s <:+ bs) : bs.drop (bs.length - s.length) = s := by
  obtain ⟨p, rfl⟩ := h
  rw [List.length_append, Nat.add_sub_cancel, List.drop_left]
def decB (bs : List UInt8) : Option Nd := if bs.length = 256 ∧ (rNode bs).2.2 = false ∧ mayN (rNode bs).1 = true ∧ (rNode bs).2.1.all (fun c => c == 0) = true then some (rNode bs).1 else none
/-- How long a node's lists may be, and its texts. -/
structure NB (n : Nd) : Prop where
  k : n.ks.length ≤ 300
  v : n.vs.length ≤ 300
  z : n.kids.length ≤ 300
  kl : ∀ k ∈ n.ks, k.length ≤ 300
  vl : ∀ k ∈ n.vs, k.length ≤ 300
theorem rdn_nv {M L' : RL} {n : Nd} {m1 m2 m3 : Value} {R1 Rb : RL} (hB : NB n) (hk : GV 9 1 [] m1 n.ks.length (tx n.ks) R1) (hor : (n.leaf = true ∧ GV 9 1 [] m2 n.vs.length (tx n.vs) Rb ∧ m3 = .slice none 0 0 ∧ n.kids = []) ∨ (n.leaf = false ∧ GV 3 1 [] m3 n.kids.length (nums n.kids) Rb ∧ m2 = .slice none 0 0 ∧ n.vs = []))
    (h1 : ∀ p, p ∈ R1 → p ∈ L') (h2 : ∀ p, p ∈ Rb → p ∈ L') : NV L' n m1 m2 m3 := by
  obtain ⟨g1, g2, g3, g4, g5⟩ := hB
  rcases hor with ⟨hl, hg, rfl, he⟩ | ⟨hl, hg, rfl, he⟩
  · exact ⟨hk.sv.mono h1, hg.sv.mono h2, by rw [he]; exact .inl ⟨rfl, rfl, rfl⟩, by omega, by omega, by omega, fun k h => by have := g4 k h; omega, fun k h => by have := g5 k h; omega⟩
  · exact ⟨hk.sv.mono h1, by rw [he]; exact .inl ⟨rfl, rfl, rfl⟩, hg.sv.mono h2, by omega, by omega, by omega, fun k h => by have := g4 k h; omega, fun k h => by have := g5 k h; omega⟩
def DecV (M : RL) (bs : List UInt8) (v : Value) (L' : RL) : Prop := (decB bs = none ∧ v = .tuple #[ndV false (.slice none 0 0) (.slice none 0 0) (.slice none 0 0), .int .i64 4] ∧ L' = M) ∨ ∃ nd u, decB bs = some nd ∧ NB nd ∧ v = .tuple #[u, .int .i64 0] ∧ RdN M nd u L'
theorem Decode_ct {L : RL} {v : Value} {bs : List UInt8} (hv : BV L v bs) (hn : bs.length ≤ 400000000000) : CS Try.prog 21 [v] L fun u L' => DecV L bs u L' := by
  have hsv : SV 1 L v bs.length (byteCells bs) := by
    rcases hv with hv | hv
    · exact hv.sv
    · exact hv.1
  suffices g : CS Try.prog 21 [v] L fun u L' => (decB bs = none ∧ u = .tuple #[ndV false (.slice none 0 0) (.slice none 0 0) (.slice none 0 0), .int .i64 4] ∧ ∃ X, L' = X ++ L) ∨ ∃ nd w z t L₁, decB bs = some nd ∧ NB nd ∧ u = .tuple #[w, .int .i64 0] ∧ RdN L nd w L₁ ∧ L' = z :: t :: L₁ by
    refine g.less fun u L' h => ?_
    rcases h with ⟨h1, h2, X, rfl⟩ | ⟨nd, w, z, t, L₁, h1, h2, h3, h4, rfl⟩
    · exact ⟨L, Sub.suffix, .inl ⟨h1, h2, rfl⟩⟩
    · exact ⟨_, Sub.suffix (X := [z, t]), .inr ⟨nd, w, h1, h2, h3, h4⟩⟩
  refine CS.mk (fn := Try.f21) rfl rfl rfl rfl ?_
  repeat refine LS.seq ?_
  refine LS.region rfl ?_
  refine OS.fresh rfl (e_new (fun _ => rfl) rfl) (fun _ => rfl) (fun ro => ?_)
  refine OS.pure rfl (fun _ => rfl) rfl ?_
  refine OS.nil ?_
  by_cases hl : bs.length = 256
  case' neg =>
    have hb0 : (!ieqB (bs.length : Int) (256 : Nat)) = true := by rw [ieqN, decide_eq_false hl]; rfl
    have hd : decB bs = none := by unfold decB; rw [if_neg (fun h => hl h.1)]
    repeat refine LS.seq ?_
    refine LS.region rfl ?_
    refine OS.pure rfl (fun _ => rfl) rfl ?_
    refine OS.pure rfl (e_len hsv rfl rfl rfl rfl rfl) rfl ?_
    refine OS.pure rfl (e_is (fun _ => rfl) (congrArg Value.bool hb0)) rfl ?_
    refine OS.nil ?_
    repeat refine LS.seq ?_
    refine LS.cond rfl (fun hc => ?_) (fun hc => ?_)
    · repeat refine LS.seq ?_
      refine LS.region rfl ?_
      refine OS.pure rfl (fun _ => rfl) rfl ?_
      refine OS.write rfl (e_store 0 rfl rfl rfl rfl rfl rfl rfl rfl) rfl ?_
      refine OS.pure rfl (fun _ => rfl) rfl ?_
      refine OS.nil ?_
      refine LS.ret ⟨_, res_cell2 0 rfl rfl rfl rfl rfl, ?_⟩
      exact .inl ⟨hd, rfl, [_], rfl⟩
    · cases hc
  have hb0 : (!ieqB (bs.length : Int) (256 : Nat)) = false := by rw [ieqN, decide_eq_true hl]; rfl
  repeat refine LS.seq ?_
  refine LS.region rfl ?_
  refine OS.pure rfl (fun _ => rfl) rfl ?_
  refine OS.pure rfl (e_len hsv rfl rfl rfl rfl rfl) rfl ?_
  refine OS.pure rfl (e_is (fun _ => rfl) (congrArg Value.bool hb0)) rfl ?_
  refine OS.nil ?_
  repeat refine LS.seq ?_
  refine LS.cond rfl (fun hc => ?_) (fun hc => ?_)
  · cases hc
  refine LS.skip ?_
  repeat refine LS.seq ?_
  refine LS.region rfl ?_
  refine OS.pure rfl (fun _ => rfl) rfl ?_
  refine OS.call noGo rfl (fun _ => rfl) (((NewReader_ct (bs := bs) hsv.cons hn)).mono ?_)
  rintro u L' ⟨rr, rbt, rfl, v0, rfl, hv0⟩
  refine ⟨_, rfl, ?_⟩
  refine OS.pure rfl (fun _ => rfl) rfl ?_
  refine OS.nil ?_
  repeat refine LS.seq ?_
  refine LS.region rfl ?_
  refine OS.pure rfl (fun _ => rfl) rfl ?_
  refine OS.call noGo rfl (fun _ => rfl) (((read_ct (bs := bs) hv0 (by omega))).mono ?_)
  rintro u L' ⟨v1, L'', rfl, hv1, ⟨m1, m2, m3, R1, Rb, rfl, rfl, hk, hor⟩, hRB⟩
  obtain ⟨s1, s2, s3⟩ := rdn_sl hk hor
  have hNB : NB (rNode bs).1 := ⟨by have := hRB.k; omega, by have := hRB.v; omega, by have := hRB.z; omega, fun k h => by have := hRB.kl k h; omega, fun k h => by have := hRB.vl k h; omega⟩
  refine ⟨_, rfl, ?_⟩
  refine OS.fresh rfl (e_new (fun _ => rfl) rfl) (fun _ => rfl) (fun r5 => ?_)
  refine OS.write rfl (e_store 0 (n := 4) rfl rfl rfl rfl rfl (nd_one s1 s2 s3) rfl rfl) rfl ?_
  refine OS.nil ?_
  have hnv : ∀ (X : RL), NV (X ++ (R1 ++ (Rb ++ (rbt, bRow bs) :: (ro, ndRow false (.slice none 0 0) (.slice none 0 0) (.slice none 0 0)) :: L))) (rNode bs).1 m1 m2 m3 := fun X =>
    rdn_nv (M := L) hNB hk hor (fun p hp => by simp [hp]) (fun p hp => by simp [hp])
  have hbl : ∀ (X : RL), BV (X ++ (R1 ++ (Rb ++ (rbt, bRow bs) :: (ro, ndRow false (.slice none 0 0) (.slice none 0 0) (.slice none 0 0)) :: L))) v bs := fun X => hv.mono fun p hp => by simp [hp]
  have hsuf := rNode_suf bs
  have hle : (rNode bs).2.1.length ≤ 256 := by have := hsuf.length_le; omega
  repeat refine LS.seq ?_
  refine LS.mid [0, 2, 5, 32] (fun a L' => L' = (rr, rdRowOf v1 (rNode bs).2.2) :: (r5, ndRow (rNode bs).1.leaf m1 m2 m3) :: (R1 ++ (Rb ++ (rbt, bRow bs) :: (ro, ndRow false (.slice none 0 0) (.slice none 0 0) (.slice none 0 0)) :: L)) ∧ a = [v, .chan none, .pointer (some ⟨ro, 0, none⟩), .chan none, .chan none, .pointer (some ⟨r5, 0, none⟩), .chan none, .chan none, .chan none, .chan none, .chan none, .chan none, .chan none, .chan none, .chan none, .chan none, .chan none, .chan none, .chan none, .chan none, .chan none, .chan none, .chan none, .chan none, .chan none, .chan none, .chan none, .chan none, .chan none, .chan none, .chan none, .chan none, .bool (decB bs).isNone, .chan none, .chan none]) ?_ ?_
  · cases hf : (rNode bs).2.2 with
    | true =>
      have hd : (decB bs).isNone = true := by unfold decB; rw [hf, if_neg (by simp)]; rfl
      repeat refine LS.seq ?_
      refine LS.region rfl ?_
      refine OS.pure rfl (fun _ => rfl) rfl ?_
      refine OS.sub (Sub.pulls [1] rfl) ?_
      refine OS.call noGo rfl (fun _ => rfl) ((OK_ct).mono ?_)
      rintro u L' ⟨rfl, rfl⟩
      refine ⟨_, rfl, ?_⟩
      refine OS.pure rfl (fun _ => rfl) rfl ?_
      refine OS.pure rfl (fun _ => rfl) rfl ?_
      refine OS.skip rfl rfl ?_
      refine OS.skip rfl rfl ?_
      refine OS.skip rfl rfl ?_
      refine OS.pure rfl (fun _ => rfl) rfl ?_
      refine OS.pure rfl (fun _ => rfl) rfl ?_
      refine OS.skip rfl rfl ?_
      refine OS.skip rfl rfl ?_
      refine OS.skip rfl rfl ?_
      refine OS.skip rfl rfl ?_
      refine OS.skip rfl rfl ?_
      refine OS.skip rfl rfl ?_
      refine OS.skip rfl rfl ?_
      refine OS.skip rfl rfl ?_
      refine OS.skip rfl rfl ?_
      refine OS.pure rfl (fun _ => rfl) rfl ?_
      refine OS.nil ?_
      rw [hd]
      exact ⟨rfl, rfl⟩
    | false =>
      repeat refine LS.seq ?_
      refine LS.region rfl ?_
      refine OS.pure rfl (fun _ => rfl) rfl ?_
      refine OS.sub (Sub.pulls [1] rfl) ?_
      refine OS.call noGo rfl (fun _ => rfl) ((OK_ct).mono ?_)
      rintro u L' ⟨rfl, rfl⟩
      refine ⟨_, rfl, ?_⟩
      refine OS.pure rfl (fun _ => rfl) rfl ?_
      refine OS.pure rfl (fun _ => rfl) rfl ?_
      refine OS.read rfl (e_load 1 rfl rfl rfl rfl rfl) rfl ?_
      refine OS.call noGo rfl (fun _ => rfl) (((mayBe_ct (n := (rNode bs).1) (hnv [_, _]))).mono ?_)
      rintro u L' ⟨rfl, e₁⟩
      subst e₁
      cases hm : mayN (rNode bs).1 with
      | false =>
        have hd : (decB bs).isNone = true := by unfold decB; rw [hm, if_neg (by simp)]; rfl
        refine ⟨_, rfl, ?_⟩
        refine OS.pure rfl (fun _ => rfl) rfl ?_
        refine OS.pure rfl (fun _ => rfl) rfl ?_
        refine OS.pure rfl (fun _ => rfl) rfl ?_
        refine OS.skip rfl rfl ?_
        refine OS.skip rfl rfl ?_
        refine OS.skip rfl rfl ?_
        refine OS.skip rfl rfl ?_
        refine OS.skip rfl rfl ?_
        refine OS.skip rfl rfl ?_
        refine OS.skip rfl rfl ?_
        refine OS.skip rfl rfl ?_
        refine OS.skip rfl rfl ?_
        refine OS.pure rfl (fun _ => rfl) rfl ?_
        refine OS.nil ?_
        rw [hd]
        exact ⟨rfl, rfl⟩
      | true =>
        refine ⟨_, rfl, ?_⟩
        refine OS.pure rfl (fun _ => rfl) rfl ?_
        refine OS.pure rfl (fun _ => rfl) rfl ?_
        refine OS.pure rfl (fun _ => rfl) rfl ?_
        refine OS.pure rfl (fun _ => rfl) rfl ?_
        refine OS.pure rfl (fun _ => rfl) rfl ?_
        refine OS.pure rfl (e_len (hsv.mono (L' := (rr, rdRowOf v1 false) :: (r5, ndRow (rNode bs).1.leaf m1 m2 m3) :: (R1 ++ (Rb ++ (rbt, bRow bs) :: (ro, ndRow false (.slice none 0 0) (.slice none 0 0) (.slice none 0 0)) :: L))) (fun p hp => by simp [hp])) rfl rfl rfl rfl rfl) rfl ?_
        refine OS.pure rfl (fun _ => rfl) rfl ?_
        refine OS.call noGo rfl (fun _ => rfl) (((Left_ct (bs := (rNode bs).2.1) (hv1.mono fun p hp => List.mem_cons_of_mem _ (List.mem_append_right _ (List.mem_append_right _ hp))))).mono ?_)
        rintro u L' ⟨rfl, rfl⟩
        refine ⟨_, rfl, ?_⟩
        rw [hl]
        refine OS.pure rfl (e_is (e_sub (m := (256 : Int)) (n := (rNode bs).2.1.length) rfl rfl rfl (in_i64 (by omega) (by omega))) (congrArg (Value.int .i64) (show (256 : Int) - ((rNode bs).2.1.length : Nat) = ((256 - (rNode bs).2.1.length : Nat) : Int) by omega))) rfl ?_
        refine OS.cutX (l := 256 - (rNode bs).2.1.length) (u := bs.length) (hbl [_, _]) rfl rfl rfl rfl rfl bound_nat rfl rfl rfl (Nat.le_refl _) (by omega) (fun w hw => ?_)
        have hds : (bs.drop (256 - (rNode bs).2.1.length)).take (bs.length - (256 - (rNode bs).2.1.length)) = (rNode bs).2.1 := by
          rw [List.take_of_length_le (by simp), ← hl, drop_suf hsuf]
        rw [hds, show bs.length - (256 - (rNode bs).2.1.length) = (rNode bs).2.1.length by omega] at hw
        refine ⟨_, rfl, ?_⟩
        refine OS.call noGo rfl (fun _ => rfl) (((blank_ct hw (by omega))).mono ?_)
        rintro u L' ⟨rfl, e₁⟩
        subst e₁
        have hd : (decB bs).isNone = !(rNode bs).2.1.all (fun c => c == 0) := by
          unfold decB
          rw [hf, hm]
          cases (rNode bs).2.1.all (fun c => c == 0) <;> simp [hl]
        refine ⟨_, rfl, ?_⟩
        refine OS.pure rfl (fun _ => rfl) rfl ?_
        refine OS.pure rfl (fun _ => rfl) rfl ?_
        refine OS.nil ?_
        rw [hd]
        exact ⟨rfl, rfl⟩
  rintro a L' ⟨rfl, rfl⟩
  cases hd : decB bs with
  | none =>
    repeat refine LS.seq ?_
    refine LS.cond rfl (fun hc => ?_) (fun hc => ?_)
    · repeat refine LS.seq ?_
      refine LS.region rfl ?_
      refine OS.sub ((Sub.suffix (X := Rb)).trans ((Sub.suffix (X := R1)).trans (Sub.suffix (X := [_, _])))) ?_
      refine OS.pure rfl (fun _ => rfl) rfl ?_
      refine OS.write rfl (e_store 1 rfl rfl rfl rfl rfl rfl rfl rfl) rfl ?_
      refine OS.pure rfl (fun _ => rfl) rfl ?_
      refine OS.nil ?_
      refine LS.ret ⟨_, res_cell2 1 rfl rfl rfl rfl rfl, ?_⟩
      exact .inl ⟨rfl, rfl, [_, _], rfl⟩
    · cases hc
  | some nd =>
    have hnd : nd = (rNode bs).1 := by
      unfold decB at hd
      split at hd
      · exact (Option.some.inj hd).symm
      · cases hd
    repeat refine LS.seq ?_
    refine LS.cond rfl (fun hc => ?_) (fun hc => ?_)
    · cases hc
    refine LS.skip ?_
    subst hnd
    repeat refine LS.seq ?_
    refine LS.region rfl ?_
    refine OS.read rfl (e_load 1 rfl rfl rfl rfl rfl) rfl ?_
    refine OS.sub ((Sub.swap (A := [(rbt, bRow bs), (ro, ndRow false (.slice none 0 0) (.slice none 0 0) (.slice none 0 0))]) (Y := R1) (G := Rb ++ L)).trans ((Sub.app R1 (Sub.swap (A := [(rbt, bRow bs), (ro, ndRow false (.slice none 0 0) (.slice none 0 0) (.slice none 0 0))]) (Y := Rb) (G := L))).trans (Sub.suffix (X := [_, _])))) ?_
    refine OS.write rfl (e_store 1 (n := 4) rfl rfl rfl rfl rfl (nd_one s1 s2 s3) rfl rfl) rfl ?_
    refine OS.pure rfl (fun _ => rfl) rfl ?_
    refine OS.nil ?_
    refine LS.ret ⟨_, res_cell2 1 rfl rfl rfl rfl rfl, ?_⟩
    exact .inr ⟨_, _, _, _, _, rfl, hNB, rfl, ⟨m1, m2, m3, R1, Rb, rfl, rfl, hk, hor⟩, rfl⟩
end Go.Proofs.Ytdffhllecojgcaa
