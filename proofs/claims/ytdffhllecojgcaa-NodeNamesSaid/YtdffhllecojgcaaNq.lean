/- Layer 6, the document's: a node's bytes, its size, its block; where a key stands. -/
import Derived.Test.YtdffhllecojgcaaNj
namespace Go.Am
section
variable {P : Program} {o : Oper} {a : Slots} {L L₁ : RL}
/-- What an append of zero values is asked for. -/
def appZT (P : Program) (c : Call) : Option (TypeId × Nat × Nat × List Value) :=
  match c.callee with
  | .builtin .append => match c.argTypes[0]?, c.argTypes[1]? with
    | some st, some xt => match P.underlying st, P.underlying xt with
      | some (.slice e), some (.int _) => match P.info? e, zerosB P e with
          | some i, some zs => match zeroFits P e && Nat.beq zs.length i.size with
            | true => some (e, i.size, i.bytes, zs)
            | false => none
          | _, _ => none
      | _, _ => none
    | _, _ => none
  | _ => none
/-- So many zero values, behind a row of its own. -/
theorem e_appendZ (i : Nat) {c : Call} {e : TypeId} {sz bts len m r off : Nat} {zs old cs : List Value} (ho : o.op = .call c) (hT : appZT P c = some (e, sz, bts, zs)) (ha : evs a c.args.toList = some [.slice (some ⟨r, off, none⟩) len openCap, .int .i64 (m : Nat)])
    (hone : allOne (repL zs m) = true) (hsm : (len + m) * bts ≤ 1000000000000) (hm : m * bts ≤ 1000000000000) (hsm2 : len + m ≤ 1000000000000) (hL : L[i]? = some (r, .cells e cs)) (hcut : cut cs off (len * sz) = some old) (hd : dropL L i = some L₁) :
    ∀ h, Has h L → ∃ r' h₁, opB P a o h = some (.val (.slice (some ⟨r', 0, none⟩) (len + m) openCap) h₁) ∧ Has h₁ ((r', .cells e (old ++ repL zs m)) :: L₁) := by
  intro h H
  unfold appZT at hT
  split at hT
  case h_2 => cases hT
  rename_i hcal
  split at hT
  case h_2 => cases hT
  rename_i st xt hst hxt
  split at hT
  case h_2 => cases hT
  rename_i e' k hu1 hu2
  split at hT
  case h_2 => cases hT
  rename_i inf zs' hi hz
  split at hT
  case h_2 => cases hT
  rename_i hfit
  simp at hT
  obtain ⟨rfl, rfl, rfl, rfl⟩ := hT
  simp only [Bool.and_eq_true] at hfit
  obtain ⟨hfit, hzl⟩ := hfit
  obtain ⟨h₀, e₀⟩ := h.put_some r none
  obtain ⟨h₁, e₁⟩ := h₀.new_some (.cells e' (old ++ repL zs' m))
  have := dropL_eq hd
  subst this
  refine ⟨h₀.next, h₁, ?_, (H.drop hL e₀).new e₁⟩
  have b0 : ileB 0 (m : Int) = true := ileB_iff.2 (by omega)
  have b1 : ileB (m : Int) 1000000000000 = true := ileB_iff.2 (by omega)
  have b2 : smallB m inf.bytes = true := by unfold smallB; exact Nat.ble_eq_true_of_le hm
  have b3 : smallB (len + m) inf.bytes = true := by unfold smallB; exact Nat.ble_eq_true_of_le hsm
  have b4 : Nat.ble (len + m) 1000000000000 = true := Nat.ble_eq_true_of_le hsm2
  have hs : sizeB P e' = some inf.size := by unfold sizeB; rw [hi]
  have hgrow : growB P h₀ e' (len + m) old (repL zs' m) = some (.slice (some ⟨h₀.next, 0, none⟩) (len + m) openCap, h₁) := by
    simp only [growB, join_of, hfit, b4, Bool.and_self, newCells, hs, e₁]
  have hc : Nat.beq openCap openCap = true := beq_true rfl
  simp only [opB, ho, ha, callOpB, hcal, appendB, hst, hxt, hu1, hu2, appendZB, hi, hz, b0, b1, Int.toNat_natCast, b2, hzl, Bool.and_self, rep_of, hone, hc, H.row hL, b3, beq_true rfl, hcut, e₀, hgrow, ret2]
end
theorem GV.row {e : TypeId} {sz n : Nat} {F L : RL} {v : Value} {cs : List Value} (g : GV e sz F v n cs L) (h : 0 < n) : ∃ r, v = .slice (some ⟨r, 0, none⟩) n openCap ∧ L = (r, .cells e cs) :: F := by
  rcases g with ⟨_, rfl, _⟩ | ⟨r, rfl, _, rfl⟩
  · omega
  · exact ⟨r, rfl, rfl⟩
end Go.Am
namespace Go.Proofs.Ytdffhllecojgcaa
open Go.Am
set_option linter.unusedVariables false
set_option maxRecDepth 20000

theorem rFlag1_ct {F : RL} (b : Bool) : CS Try.prog 50 [.slice none 0 0, .bool b] F fun v L' => ∃ r, v = bSl r [if b then 1 else 0] ∧ L' = (r, bRow [if b then 1 else 0]) :: F := by
  refine (rFlag_ct (n := 0) (bs := []) b (.inl ⟨rfl, rfl, rfl⟩) (by omega)).mono ?_
  intro v L' h
  obtain ⟨r, rfl, rfl⟩ := h.row (by omega)
  exact ⟨r, rfl, rfl⟩
theorem rCount1_ct {F : RL} {r : Nat} {bs : List UInt8} (z : Int) (hp : 0 < bs.length) (hn : bs.length ≤ 400000000000) :
    CS Try.prog 49 [bSl r bs, .int .i64 z] ((r, bRow bs) :: F) fun v L' => ∃ r, v = bSl r (bs ++ cnt z) ∧ L' = (r, bRow (bs ++ cnt z)) :: F := by
  refine (rCount_ct (n := bs.length) (bs := bs) z brow_sv hn).less ?_
  intro v L' h
  obtain ⟨q, rfl, rfl⟩ := h.row (by omega)
  exact ⟨_, Sub.drop 1 rfl, q, by unfold bSl; rw [List.length_append], rfl⟩
theorem rStr1_ct {F : RL} {r : Nat} {bs s : List UInt8} (hs : s.length ≤ 200000) (hp : 0 < bs.length) (hn : bs.length ≤ 300000000000) :
    CS Try.prog 51 [bSl r bs, txt s] ((r, bRow bs) :: F) fun v L' => ∃ r, v = bSl r (bs ++ tB s) ∧ L' = (r, bRow (bs ++ tB s)) :: F := by
  refine (rStr_ct (n := bs.length) (bs := bs) hs brow_sv hn).less ?_
  intro v L' h
  obtain ⟨q, rfl, rfl⟩ := h.row (by omega)
  rw [cnt_nat (by omega)]
  exact ⟨_, Sub.drop 1 rfl, q, by unfold bSl tB; rw [List.length_append, List.length_append], rfl⟩
theorem rBytes_ct {L : RL} {n : Nd} {v1 v2 v3 : Value} (h : NV L n v1 v2 v3) (hm : mayN n = true) (hn : n.ks.length ≤ 1000000) :
    CS Try.prog 27 [ndV n.leaf v1 v2 v3] L fun u L' => ∃ r, u = bSl r (bodyN n) ∧ L' = (r, bRow (bodyN n)) :: L := by
  suffices g : CS Try.prog 27 [ndV n.leaf v1 v2 v3] L fun u L' => ∃ r x, u = bSl r (bodyN n) ∧ L' = (r, bRow (bodyN n)) :: x :: L by
    exact g.less fun u L' ⟨r, x, h1, h2⟩ => ⟨_, by rw [h2]; exact Sub.cons Sub.tail, r, h1, rfl⟩
  have hle := body_le hm hn
  have hbl := beh_len hm
  have hkl := may_ks hm
  have hble := beh_le hm
  refine CS.mk (fn := Try.f27) rfl rfl rfl rfl ?_
  repeat refine LS.seq ?_
  refine LS.region rfl ?_
  refine OS.fresh rfl (e_new (fun _ => rfl) rfl) (fun _ => rfl) (fun rn => ?_)
  refine OS.pure rfl (fun _ => rfl) rfl ?_
  refine OS.nil ?_
  have h0 := h
  have h := h.cons (x := (rn, nrRow n.leaf v1 v2 v3))
  repeat refine LS.seq ?_
  refine LS.drawn noGo mixed [(0, false), (1, false), (3, false), (4, false), (5, false), (2, true), (6, true), (7, false)] rfl rfl (by kernel_rfl) ?_
  refine ODS.pure rfl rfl (fun _ => rfl) rfl ?_
  refine ODS.read rfl rfl (e_load 0 rfl rfl rfl rfl rfl) rfl ?_
  refine ODS.pure rfl rfl (fun _ => rfl) rfl ?_
  refine ODS.read rfl rfl (e_load 0 rfl rfl rfl rfl rfl) rfl ?_
  refine ODS.pure rfl rfl (e_len h.k rfl rfl rfl rfl rfl) rfl ?_
  refine ODS.call rfl rfl (fun _ => rfl) ((rFlag1_ct n.leaf).mono ?_)
  rintro u L' ⟨r, rfl, rfl⟩
  refine ⟨_, rfl, Keep.cons rfl (e_load 1 rfl rfl rfl rfl rfl) (Keep.gone rfl Keep.nil), ?_⟩
  refine ODS.call rfl rfl (fun _ => rfl) (((rCount1_ct (n.ks.length : Int) (by simp) (by simp))).mono ?_)
  rintro u L' ⟨r1, rfl, rfl⟩
  refine ⟨_, rfl, Keep.gone rfl (Keep.gone rfl Keep.nil), ?_⟩
  rw [cnt_nat (by omega)]
  refine ODS.pure rfl rfl (fun _ => rfl) rfl ?_
  refine ODS.nil ?_
  have hhead : [if n.leaf then (1 : UInt8) else 0] ++ grp n.ks.length = headN n := rfl
  rw [hhead]
  have hhp : 0 < (headN n).length := by unfold headN; simp
  repeat refine LS.seq ?_
  refine LS.region rfl ?_
  refine OS.pure rfl (fun _ => rfl) rfl ?_
  refine OS.read rfl (e_load 1 rfl rfl rfl rfl rfl) rfl ?_
  refine OS.pure rfl (fun _ => rfl) rfl ?_
  refine OS.nil ?_
  repeat refine LS.seq ?_
  refine LS.mid [1, 3] (fun a L' => ∃ rb acc, L' = (rb, bRow acc) :: (rn, nrRow n.leaf v1 v2 v3) :: L ∧ acc ++ zipB n.ks (behN n) = bodyN n ∧ 0 < acc.length ∧
    a = [.chan none, .pointer (some ⟨rn, 0, none⟩), .chan none, bSl rb acc, .chan none, .chan none, .chan none, .chan none, .chan none, .chan none, .chan none, .chan none, .chan none, .chan none, .chan none, .chan none, .chan none, .chan none, .chan none, .chan none, .chan none, .chan none, .chan none, .chan none, .chan none, .chan none, .chan none, .chan none, .chan none, .chan none, .chan none, .chan none, .chan none, .chan none, .chan none, .chan none, .chan none, .chan none, .chan none, .chan none, .chan none, .chan none, .chan none, .chan none, .chan none, .chan none, .chan none, .chan none, .chan none, .chan none, .chan none, .chan none, .chan none]) ?_ ?_
  · refine LS.cond (b := !n.leaf) rfl (fun hc => ?_) (fun hc => ?_)
    · have hlf : n.leaf = false := by simpa using hc
      obtain ⟨hkn, hv0, hkz⟩ := may_kids hm hlf
      have hk0 : 0 < n.kids.length := by omega
      have hz := h.z
      repeat refine LS.seq ?_
      refine LS.region rfl ?_
      refine OS.pure rfl (fun _ => rfl) rfl ?_
      refine OS.pure rfl (fun _ => rfl) rfl ?_
      refine OS.read rfl (e_load 1 rfl rfl rfl rfl rfl) rfl ?_
      refine OS.at1 (j := 0) (hz.cons (x := (r1, bRow (headN n)))) (nums_at hk0) rfl rfl rfl rfl rfl rfl (fun r0 o0 row0 cs0 m0 c0 g0 => ?_)
      refine ⟨_, rfl, ?_⟩
      refine OS.read rfl (e_loadm m0 c0 rfl rfl (part_one rfl g0)) rfl ?_
      refine OS.call noGo rfl (fun _ => rfl) (((rCount1_ct n.kids[0] hhp (by unfold bodyN at hle; simp at hle; omega))).mono ?_)
      rintro u L' ⟨r2, rfl, rfl⟩
      refine ⟨_, rfl, ?_⟩
      refine OS.pure rfl (fun _ => rfl) rfl ?_
      refine OS.nil ?_
      refine ⟨r2, headN n ++ cnt n.kids[0], rfl, ?_, by rw [List.length_append]; omega, rfl⟩
      unfold bodyN firstN
      rw [hlf, if_neg (by decide), List.append_assoc]
      congr 3
      exact headD_get hk0
    · have hlf : n.leaf = true := by simpa using hc
      refine LS.skip ?_
      refine ⟨r1, headN n, rfl, ?_, hhp, rfl⟩
      unfold bodyN firstN
      rw [hlf, if_pos rfl, List.nil_append]
  rintro a L' ⟨rb, acc, rfl, hacc, hap, rfl⟩
  repeat refine LS.seq ?_
  refine LS.region rfl ?_
  refine OS.pure rfl (fun _ => rfl) rfl ?_
  refine OS.nil ?_
  repeat refine LS.seq ?_
  refine LS.block ?_
  refine LS.loopJ [1, 3, 4] (fun q a L' => ∃ j rb acc, q = n.ks.length - j ∧ j ≤ n.ks.length ∧ L' = (rb, bRow acc) :: (rn, nrRow n.leaf v1 v2 v3) :: L ∧ acc ++ zipB (n.ks.drop j) ((behN n).drop j) = bodyN n ∧ 0 < acc.length ∧
    a = [.chan none, .pointer (some ⟨rn, 0, none⟩), .chan none, bSl rb acc, .int .i64 (j : Nat), .chan none, .chan none, .chan none, .chan none, .chan none, .chan none, .chan none, .chan none, .chan none, .chan none, .chan none, .chan none, .chan none, .chan none, .chan none, .chan none, .chan none, .chan none, .chan none, .chan none, .chan none, .chan none, .chan none, .chan none, .chan none, .chan none, .chan none, .chan none, .chan none, .chan none, .chan none, .chan none, .chan none, .chan none, .chan none, .chan none, .chan none, .chan none, .chan none, .chan none, .chan none, .chan none, .chan none, .chan none, .chan none, .chan none, .chan none, .chan none]) (n := n.ks.length) rfl ⟨0, rb, acc, rfl, by omega, rfl, hacc, hap, rfl⟩ ?_
  clear hacc hap
  rintro q a L' ⟨j, rb, acc, rfl, hj, rfl, hacc, hap, rfl⟩
  repeat refine LS.seq ?_
  refine LS.region rfl ?_
  refine OS.pure rfl (fun _ => rfl) rfl ?_
  refine OS.pure rfl (fun _ => rfl) rfl ?_
  refine OS.read rfl (e_load 1 rfl rfl rfl rfl rfl) rfl ?_
  refine OS.pure rfl (e_len (h.k.cons (x := (rb, bRow acc))) rfl rfl rfl rfl rfl) rfl ?_
  refine OS.pure rfl (fun _ => rfl) rfl ?_
  refine OS.nil ?_
  repeat refine LS.seq ?_
  refine LS.cond rfl (fun hc => ?_) (fun hc => ?_)
  · have hc : (j : Int) < n.ks.length := lt_of hc
    have hjk : j < n.ks.length := by omega
    have hjb : j < (behN n).length := by omega
    have hkj := hkl _ (List.getElem_mem hjk)
    have hbj := hble _ (List.getElem_mem hjb)
    rw [List.drop_eq_getElem_cons hjk, List.drop_eq_getElem_cons hjb] at hacc
    simp only [zipB] at hacc
    have hlen := congrArg List.length hacc
    simp only [List.length_append] at hlen
    refine LS.skip ?_
    repeat refine LS.seq ?_
    refine LS.mid [1, 3, 4] (fun a L' => ∃ r3, L' = (r3, bRow (acc ++ tB n.ks[j] ++ (behN n)[j])) :: (rn, nrRow n.leaf v1 v2 v3) :: L ∧
      a = [.chan none, .pointer (some ⟨rn, 0, none⟩), .chan none, bSl r3 (acc ++ tB n.ks[j] ++ (behN n)[j]), .int .i64 (j : Nat), .chan none, .chan none, .chan none, .chan none, .chan none, .chan none, .chan none, .chan none, .chan none, .chan none, .chan none, .chan none, .chan none, .chan none, .chan none, .chan none, .chan none, .chan none, .chan none, .chan none, .chan none, .chan none, .chan none, .chan none, .chan none, .chan none, .chan none, .chan none, .chan none, .chan none, .chan none, .chan none, .chan none, .chan none, .chan none, .chan none, .chan none, .chan none, .chan none, .chan none, .chan none, .chan none, .chan none, .chan none, .chan none, .chan none, .chan none, .chan none]) ?_ ?_
    · repeat refine LS.seq ?_
      refine LS.block ?_
      repeat refine LS.seq ?_
      refine LS.region rfl ?_
      refine OS.pure rfl (fun _ => rfl) rfl ?_
      refine OS.pure rfl (fun _ => rfl) rfl ?_
      refine OS.read rfl (e_load 1 rfl rfl rfl rfl rfl) rfl ?_
      refine OS.pure rfl (fun _ => rfl) rfl ?_
      refine OS.at1 (j := j) (h.k.cons (x := (rb, bRow acc))) (tx_at hjk) rfl rfl rfl rfl rfl rfl (fun r0 o0 row0 cs0 m0 c0 g0 => ?_)
      refine ⟨_, rfl, ?_⟩
      refine OS.read rfl (e_loadm m0 c0 rfl rfl (part_one rfl g0)) rfl ?_
      refine OS.call noGo rfl (fun _ => rfl) (((rStr1_ct (by omega) hap (by omega))).mono ?_)
      rintro u L' ⟨r2, rfl, rfl⟩
      refine ⟨_, rfl, ?_⟩
      refine OS.pure rfl (fun _ => rfl) rfl ?_
      refine OS.nil ?_
      have hap2 : 0 < (acc ++ tB n.ks[j]).length := by rw [List.length_append]; omega
      repeat refine LS.seq ?_
      refine LS.region rfl ?_
      refine OS.pure rfl (fun _ => rfl) rfl ?_
      refine OS.read rfl (e_load 1 rfl rfl rfl rfl rfl) rfl ?_
      refine OS.nil ?_
      refine LS.cond (b := n.leaf) rfl (fun hlf => ?_) (fun hlf => ?_)
      · obtain ⟨hvn, hkn, hvl⟩ := may_vs hm hlf
        have hjv : j < n.vs.length := by omega
        have hb : (behN n)[j] = tB n.vs[j] := by
          simp only [behN, hlf]
          simp
        have hvv := h.v
        rw [hb]
        have hvj := hvl _ (List.getElem_mem hjv)
        repeat refine LS.seq ?_
        refine LS.region rfl ?_
        refine OS.pure rfl (fun _ => rfl) rfl ?_
        refine OS.pure rfl (fun _ => rfl) rfl ?_
        refine OS.read rfl (e_load 1 rfl rfl rfl rfl rfl) rfl ?_
        refine OS.pure rfl (fun _ => rfl) rfl ?_
        refine OS.at1 (j := j) (hvv.cons (x := (r2, bRow (acc ++ tB n.ks[j])))) (tx_at hjv) rfl rfl rfl rfl rfl rfl (fun r0 o0 row0 cs0 m0 c0 g0 => ?_)
        refine ⟨_, rfl, ?_⟩
        refine OS.read rfl (e_loadm m0 c0 rfl rfl (part_one rfl g0)) rfl ?_
        refine OS.call noGo rfl (fun _ => rfl) (((rStr1_ct (by omega) hap2 (by rw [List.length_append]; omega))).mono ?_)
        rintro u L' ⟨r3, rfl, rfl⟩
        refine ⟨_, rfl, ?_⟩
        refine OS.pure rfl (fun _ => rfl) rfl ?_
        refine OS.nil ?_
        exact ⟨r3, rfl, rfl⟩
      · obtain ⟨hkn, hv0, hkz⟩ := may_kids hm hlf
        have hjv : j + 1 < n.kids.length := by omega
        have hb : (behN n)[j] = cnt n.kids[j + 1] := by
          simp only [behN, hlf]
          simp
        have hzz := h.z
        have hzn := h.zn
        rw [hb]
        repeat refine LS.seq ?_
        refine LS.region rfl ?_
        refine OS.pure rfl (fun _ => rfl) rfl ?_
        refine OS.pure rfl (fun _ => rfl) rfl ?_
        refine OS.read rfl (e_load 1 rfl rfl rfl rfl rfl) rfl ?_
        refine OS.pure rfl (fun _ => rfl) rfl ?_
        refine OS.pure rfl (e_add (m := j) (n := 1) rfl rfl rfl (in_i64 (by omega) (by omega))) rfl ?_
        refine OS.at1 (j := j + 1) (hzz.cons (x := (r2, bRow (acc ++ tB n.ks[j])))) (nums_at hjv) rfl rfl rfl rfl rfl rfl (fun r0 o0 row0 cs0 m0 c0 g0 => ?_)
        refine ⟨_, rfl, ?_⟩
        refine OS.read rfl (e_loadm m0 c0 rfl rfl (part_one rfl g0)) rfl ?_
        refine OS.call noGo rfl (fun _ => rfl) (((rCount1_ct n.kids[j + 1] hap2 (by rw [List.length_append]; omega))).mono ?_)
        rintro u L' ⟨r3, rfl, rfl⟩
        refine ⟨_, rfl, ?_⟩
        refine OS.pure rfl (fun _ => rfl) rfl ?_
        refine OS.nil ?_
        exact ⟨r3, rfl, rfl⟩
    rintro a L' ⟨r3, rfl, rfl⟩
    repeat refine LS.seq ?_
    refine LS.region rfl ?_
    refine OS.pure rfl (fun _ => rfl) rfl ?_
    refine OS.pure rfl (e_add (m := j) (n := 1) rfl rfl rfl (in_i64 (by omega) (by omega))) rfl ?_
    refine OS.pure rfl (fun _ => rfl) rfl ?_
    refine OS.nil ?_
    refine ⟨n.ks.length - (j + 1), by omega, j + 1, r3, acc ++ tB n.ks[j] ++ (behN n)[j], rfl, by omega, rfl, ?_, by simp only [List.length_append]; omega, rfl⟩
    rw [← hacc]
    simp only [List.append_assoc]
  · have hc : (n.ks.length : Int) ≤ (j : Int) := nlt_of hc
    have hje : j = n.ks.length := by omega
    subst hje
    rw [List.drop_length] at hacc
    simp only [zipB, List.append_nil] at hacc
    subst hacc
    refine LS.exit ?_
    repeat refine LS.seq ?_
    refine LS.region rfl ?_
    refine OS.pure rfl (fun _ => rfl) rfl ?_
    refine OS.pure rfl (fun _ => rfl) rfl ?_
    refine OS.nil ?_
    refine LS.ret ⟨_, fun _ _ => rfl, ?_⟩
    exact ⟨rb, _, rfl, rfl⟩
theorem rSize_ct {L : RL} {n : Nd} {v1 v2 v3 : Value} (h : NV L n v1 v2 v3) (hn : n.ks.length ≤ 1000000) : CS Try.prog 17 [ndV n.leaf v1 v2 v3] L fun u L' => u = sizeV n ∧ L' = L := by
  suffices g : CS Try.prog 17 [ndV n.leaf v1 v2 v3] L fun u L' => u = sizeV n ∧ ∃ X, L' = X ++ L by
    exact g.less fun u L' ⟨h1, x, h2⟩ => ⟨L, by rw [h2]; exact Sub.suffix, h1, rfl⟩
  refine CS.mk (fn := Try.f17) rfl rfl rfl rfl ?_
  repeat refine LS.seq ?_
  refine LS.region rfl ?_
  refine OS.fresh rfl (e_new (fun _ => rfl) rfl) (fun _ => rfl) (fun rn => ?_)
  refine OS.pure rfl (fun _ => rfl) rfl ?_
  refine OS.nil ?_
  have h := h.cons (x := (rn, nrRow n.leaf v1 v2 v3))
  repeat refine LS.seq ?_
  refine LS.region rfl ?_
  refine OS.read rfl (e_load 0 rfl rfl rfl rfl rfl) rfl ?_
  refine OS.call noGo rfl (fun _ => rfl) ((rMay_ct h).mono ?_)
  rintro u L₁ ⟨rfl, e₁⟩
  subst e₁
  refine ⟨_, rfl, ?_⟩
  refine OS.pure rfl (fun _ => rfl) rfl ?_
  refine OS.nil ?_
  unfold sizeV sizeN
  cases hm : mayN n with
  | false =>
    rw [if_neg (by decide)]
    repeat refine LS.seq ?_
    refine LS.cond rfl (fun hc => ?_) (fun hc => ?_)
    · repeat refine LS.seq ?_
      refine LS.region rfl ?_
      refine OS.pure rfl (fun _ => rfl) rfl ?_
      refine OS.nil ?_
      refine LS.ret ⟨_, fun _ _ => rfl, ?_⟩
      exact ⟨rfl, [_], rfl⟩
    · cases hc
  | true =>
    rw [if_pos rfl]
    repeat refine LS.seq ?_
    refine LS.cond rfl (fun hc => ?_) (fun hc => ?_)
    · cases hc
    refine LS.skip ?_
    repeat refine LS.seq ?_
    refine LS.region rfl ?_
    refine OS.read rfl (e_load 0 rfl rfl rfl rfl rfl) rfl ?_
    refine OS.call noGo rfl (fun _ => rfl) ((rBytes_ct h hm hn).mono ?_)
    rintro u L' ⟨r, rfl, rfl⟩
    refine ⟨_, rfl, ?_⟩
    refine OS.pure rfl (e_len (brow_sv (L := [])) rfl rfl rfl rfl rfl) rfl ?_
    refine OS.pure rfl (fun _ => rfl) rfl ?_
    refine OS.nil ?_
    refine LS.ret ⟨_, fun _ _ => rfl, ?_⟩
    exact ⟨rfl, [_, _], rfl⟩
/-- The document's block, or its error. -/
def REncV (n : Nd) (L : RL) (v : Value) (L' : RL) : Prop := ∃ u, v = .tuple #[u, .int .i64 (errN n)] ∧
  ((fitsN n = false ∧ u = .slice none 0 0 ∧ L' = L) ∨ (fitsN n = true ∧ ∃ r, u = bSl r (encN n) ∧ L' = (r, bRow (encN n)) :: L))
theorem rEncode_ct {L : RL} {n : Nd} {v1 v2 v3 : Value} (h : NV L n v1 v2 v3) (hn : n.ks.length ≤ 1000000) : CS Try.prog 13 [ndV n.leaf v1 v2 v3] L fun u L' => REncV n L u L' := by
  suffices g : CS Try.prog 13 [ndV n.leaf v1 v2 v3] L fun u L' => ∃ L₀ X, REncV n L₀ u L' ∧ L₀ = X ++ L by
    refine g.less fun u L' ⟨L₀, X, ⟨w, h1, h2⟩, h3⟩ => ?_
    subst h3
    rcases h2 with ⟨h2, h4, rfl⟩ | ⟨h2, r, h4, rfl⟩
    · exact ⟨L, Sub.suffix, w, h1, .inl ⟨h2, h4, rfl⟩⟩
    · exact ⟨_, Sub.cons Sub.suffix, w, h1, .inr ⟨h2, r, h4, rfl⟩⟩
  refine CS.mk (fn := Try.f13) rfl rfl rfl rfl ?_
  repeat refine LS.seq ?_
  refine LS.region rfl ?_
  refine OS.fresh rfl (e_new (fun _ => rfl) rfl) (fun _ => rfl) (fun rn => ?_)
  refine OS.pure rfl (fun _ => rfl) rfl ?_
  refine OS.pure rfl (fun _ => rfl) rfl ?_
  refine OS.nil ?_
  have h := h.cons (x := (rn, nrRow n.leaf v1 v2 v3))
  repeat refine LS.seq ?_
  refine LS.region rfl ?_
  refine OS.read rfl (e_load 0 rfl rfl rfl rfl rfl) rfl ?_
  refine OS.call noGo rfl (fun _ => rfl) ((rMay_ct h).mono ?_)
  rintro u L₁ ⟨rfl, e₁⟩
  subst e₁
  refine ⟨_, rfl, ?_⟩
  refine OS.pure rfl (fun _ => rfl) rfl ?_
  refine OS.nil ?_
  cases hm : mayN n with
  | false =>
    repeat refine LS.seq ?_
    refine LS.cond rfl (fun hc => ?_) (fun hc => ?_)
    · repeat refine LS.seq ?_
      refine LS.region rfl ?_
      refine OS.pure rfl (fun _ => rfl) rfl ?_
      refine OS.pure rfl (fun _ => rfl) rfl ?_
      refine OS.nil ?_
      refine LS.ret ⟨_, fun _ _ => rfl, ?_⟩
      exact ⟨_, [_], ⟨_, by unfold errN; rw [hm]; rfl, .inl ⟨by unfold fitsN; rw [hm]; rfl, rfl, rfl⟩⟩, rfl⟩
    · cases hc
  | true =>
    repeat refine LS.seq ?_
    refine LS.cond rfl (fun hc => ?_) (fun hc => ?_)
    · cases hc
    refine LS.skip ?_
    repeat refine LS.seq ?_
    refine LS.region rfl ?_
    refine OS.read rfl (e_load 0 rfl rfl rfl rfl rfl) rfl ?_
    refine OS.call noGo rfl (fun _ => rfl) ((rBytes_ct h hm hn).mono ?_)
    rintro u L' ⟨r, rfl, rfl⟩
    refine ⟨_, rfl, ?_⟩
    refine OS.pure rfl (fun _ => rfl) rfl ?_
    refine OS.nil ?_
    by_cases hl : (bodyN n).length ≤ 256
    · have hb : (!ileB ((bodyN n).length : Int) 256) = false := by rw [ileB_eq]; simp; omega
      have hf : fitsN n = true := by unfold fitsN; rw [hm, decide_eq_true hl]; rfl
      repeat refine LS.seq ?_
      refine LS.region rfl ?_
      refine OS.pure rfl (fun _ => rfl) rfl ?_
      refine OS.pure rfl (e_len (brow_sv (L := [])) rfl rfl rfl rfl rfl) rfl ?_
      refine OS.pure rfl (e_is (fun _ => rfl) (congrArg Value.bool hb)) rfl ?_
      refine OS.nil ?_
      repeat refine LS.seq ?_
      refine LS.cond rfl (fun hc => ?_) (fun hc => ?_)
      · cases hc
      refine LS.skip ?_
      have hone : allOne (repL [Value.int .u8 0] (256 - (bodyN n).length)) = true := by rw [repL_u8]; exact byteCells_one _
      repeat refine LS.seq ?_
      refine LS.region rfl ?_
      refine OS.pure rfl (fun _ => rfl) rfl ?_
      refine OS.pure rfl (fun _ => rfl) rfl ?_
      refine OS.pure rfl (e_len (brow_sv (L := [])) rfl rfl rfl rfl rfl) rfl ?_
      refine OS.pure rfl (e_is (e_sub (m := (256 : Int)) (n := (bodyN n).length) rfl rfl rfl (in_i64 (by omega) (by omega))) (congrArg (Value.int .i64) (show (256 : Int) - ((bodyN n).length : Nat) = ((256 - (bodyN n).length : Nat) : Int) by omega))) rfl ?_
      refine OS.fresh rfl (e_appendZ 0 (e := 5) (sz := 1) (bts := 1) (zs := [.int .u8 0]) (m := 256 - (bodyN n).length) (old := byteCells (bodyN n)) rfl (by kernel_rfl) rfl hone (by omega) (by omega) (by omega) rfl (cut_all (by rw [byteCells_len]; omega)) rfl) (fun _ => rfl) (fun r2 => ?_)
      rw [repL_u8, ← byteCells_append]
      refine OS.pure rfl (fun _ => rfl) rfl ?_
      refine OS.pure rfl (fun _ => rfl) rfl ?_
      refine OS.nil ?_
      refine LS.ret ⟨_, fun _ _ => rfl, ?_⟩
      refine ⟨(rn, nrRow n.leaf v1 v2 v3) :: L, [(rn, nrRow n.leaf v1 v2 v3)], ⟨_, by unfold errN; rw [if_pos hm, if_pos hl]; rfl, .inr ⟨hf, r2, ?_, ?_⟩⟩, rfl⟩
      · unfold bSl; rw [enc_len hf]
        have : (bodyN n).length + (256 - (bodyN n).length) = 256 := by omega
        rw [this]
      · unfold encN
        rw [if_pos hf]
    · have hb : (!ileB ((bodyN n).length : Int) 256) = true := by rw [ileB_eq]; simp; omega
      have hf : fitsN n = false := by unfold fitsN; rw [decide_eq_false hl, Bool.and_false]
      repeat refine LS.seq ?_
      refine LS.region rfl ?_
      refine OS.pure rfl (fun _ => rfl) rfl ?_
      refine OS.pure rfl (e_len (brow_sv (L := [])) rfl rfl rfl rfl rfl) rfl ?_
      refine OS.pure rfl (e_is (fun _ => rfl) (congrArg Value.bool hb)) rfl ?_
      refine OS.nil ?_
      repeat refine LS.seq ?_
      refine LS.cond rfl (fun hc => ?_) (fun hc => ?_)
      · repeat refine LS.seq ?_
        refine LS.region rfl ?_
        refine OS.pure rfl (fun _ => rfl) rfl ?_
        refine OS.pure rfl (fun _ => rfl) rfl ?_
        refine OS.nil ?_
        refine LS.ret ⟨_, fun _ _ => rfl, ?_⟩
        exact ⟨_, [_, _], ⟨_, by unfold errN; rw [if_pos hm, if_neg hl]; rfl, .inl ⟨hf, rfl, rfl⟩⟩, rfl⟩
      · cases hc
theorem belowN_at {key : List UInt8} : ∀ {ks : List (List UInt8)} {i : Nat}, (∀ j k, j < i → ks[j]? = some k → bytesLt k key = true) → i ≤ ks.length → (∀ k, ks[i]? = some k → bytesLt k key = false) → belowN key ks = i
  | [], i, _, h2, _ => by simp at h2; subst h2; rfl
  | c :: ks, 0, _, _, h3 => by
    have := h3 c rfl
    simp only [belowN]
    rw [if_neg (by rw [this]; decide)]
  | c :: ks, i + 1, h1, h2, h3 => by
    have := h1 0 c (by omega) rfl
    simp only [belowN]
    rw [if_pos this, belowN_at (ks := ks) (i := i) (fun j k hj hk => h1 (j + 1) k (by omega) (by simpa using hk)) (by simpa using h2) (fun k hk => h3 k (by simpa using hk))]
theorem rFind_ct {L : RL} {n : Nd} {v1 v2 v3 : Value} {key : List UInt8} (h : NV L n v1 v2 v3) : CS Try.prog 15 [ndV n.leaf v1 v2 v3, txt key] L fun u L' => u = findV n key ∧ L' = L := by
  suffices g : CS Try.prog 15 [ndV n.leaf v1 v2 v3, txt key] L fun u L' => u = findV n key ∧ ∃ X, L' = X ++ L by
    exact g.less fun u L' ⟨h1, x, h2⟩ => ⟨L, by rw [h2]; exact Sub.suffix, h1, rfl⟩
  have hkn := h.kn
  refine CS.mk (fn := Try.f15) rfl rfl rfl rfl ?_
  repeat refine LS.seq ?_
  refine LS.region rfl ?_
  refine OS.fresh rfl (e_new (fun _ => rfl) rfl) (fun _ => rfl) (fun rn => ?_)
  refine OS.pure rfl (fun _ => rfl) rfl ?_
  refine OS.pure rfl (fun _ => rfl) rfl ?_
  refine OS.nil ?_
  have h := h.cons (x := (rn, nrRow n.leaf v1 v2 v3))
  repeat refine LS.seq ?_
  refine LS.region rfl ?_
  refine OS.read rfl (e_load 0 rfl rfl rfl rfl rfl) rfl ?_
  refine OS.call noGo rfl (fun _ => rfl) ((rMay_ct h).mono ?_)
  rintro u L₁ ⟨rfl, e₁⟩
  subst e₁
  refine ⟨_, rfl, ?_⟩
  refine OS.pure rfl (fun _ => rfl) rfl ?_
  refine OS.nil ?_
  unfold findV
  cases hm : mayN n with
  | false =>
    rw [if_neg (by decide)]
    repeat refine LS.seq ?_
    refine LS.cond rfl (fun hc => ?_) (fun hc => ?_)
    · repeat refine LS.seq ?_
      refine LS.region rfl ?_
      refine OS.pure rfl (fun _ => rfl) rfl ?_
      refine OS.pure rfl (fun _ => rfl) rfl ?_
      refine OS.nil ?_
      refine LS.ret ⟨_, fun _ _ => rfl, ?_⟩
      exact ⟨rfl, [_], rfl⟩
    · cases hc
  | true =>
    rw [if_pos rfl]
    repeat refine LS.seq ?_
    refine LS.cond rfl (fun hc => ?_) (fun hc => ?_)
    · cases hc
    refine LS.skip ?_
    repeat refine LS.seq ?_
    refine LS.region rfl ?_
    refine OS.pure rfl (fun _ => rfl) rfl ?_
    refine OS.nil ?_
    repeat refine LS.seq ?_
    refine LS.block ?_
    refine LS.loopJ [1, 2, 6] (fun q a L' => ∃ j : Nat, q = n.ks.length - j ∧ j ≤ n.ks.length ∧ (∀ i k, i < j → n.ks[i]? = some k → bytesLt k key = true) ∧ L' = (rn, nrRow n.leaf v1 v2 v3) :: L ∧ a = [.chan none, txt key, .pointer (some ⟨rn, 0, none⟩), .chan none, .chan none, .chan none, .int .i64 (j : Nat), .chan none, .chan none, .chan none, .chan none, .chan none, .chan none, .chan none, .chan none, .chan none, .chan none, .chan none, .chan none, .chan none, .chan none, .chan none, .chan none, .chan none, .chan none, .chan none, .chan none, .chan none, .chan none, .chan none, .chan none, .chan none, .chan none, .chan none, .chan none, .chan none, .chan none, .chan none, .chan none, .chan none, .chan none]) (n := n.ks.length) rfl ⟨0, rfl, by omega, fun i k h => by omega, rfl, rfl⟩ ?_
    rintro q a L' ⟨j, rfl, hj, hbel, rfl, rfl⟩
    by_cases hjk : j < n.ks.length
    · have b1 : (!ileB (n.ks.length : Int) (j : Nat)) = true := by rw [ileB_eq]; simp; omega
      have hat := List.getElem?_eq_getElem hjk
      cases hlt : bytesLt n.ks[j] key with
      | true =>
        repeat refine LS.seq ?_
        refine LS.region rfl ?_
        refine OS.pure rfl (fun _ => rfl) rfl ?_
        refine OS.pure rfl (fun _ => rfl) rfl ?_
        refine OS.read rfl (e_load 0 rfl rfl rfl rfl rfl) rfl ?_
        refine OS.pure rfl (e_len h.k rfl rfl rfl rfl rfl) rfl ?_
        refine OS.pure rfl (e_is (fun _ => rfl) (congrArg Value.bool b1)) rfl ?_
        refine OS.pure rfl (fun _ => rfl) rfl ?_
        refine OS.pure rfl (fun _ => rfl) rfl ?_
        refine OS.read rfl (e_load 0 rfl rfl rfl rfl rfl) rfl ?_
        refine OS.pure rfl (fun _ => rfl) rfl ?_
        refine OS.at1 (j := j) h.k (tx_at hjk) rfl rfl rfl rfl rfl rfl (fun r0 o0 row0 cs0 m0 c0 g0 => ?_)
        refine ⟨_, rfl, ?_⟩
        refine OS.read rfl (e_loadm m0 c0 rfl rfl (part_one rfl g0)) rfl ?_
        refine OS.pure rfl (fun _ => rfl) rfl ?_
        refine OS.pure rfl (e_is (fun _ => rfl) (congrArg Value.bool hlt)) rfl ?_
        refine OS.pure rfl (fun _ => rfl) rfl ?_
        refine OS.nil ?_
        repeat refine LS.seq ?_
        refine LS.cond rfl (fun hc => ?_) (fun hc => by cases hc)
        refine LS.skip ?_
        repeat refine LS.seq ?_
        refine LS.block ?_
        repeat refine LS.seq ?_
        refine LS.region rfl ?_
        refine OS.pure rfl (fun _ => rfl) rfl ?_
        refine OS.pure rfl (e_add (m := j) (n := 1) rfl rfl rfl (in_i64 (by omega) (by omega))) rfl ?_
        refine OS.pure rfl (fun _ => rfl) rfl ?_
        refine OS.nil ?_
        refine ⟨n.ks.length - (j + 1), by omega, j + 1, rfl, by omega, fun i k hi hk => ?_, rfl, rfl⟩
        rcases Nat.lt_or_ge i j with h3 | h3
        · exact hbel i k h3 hk
        · have : i = j := by omega
          subst this
          rw [hat] at hk
          cases hk
          exact hlt
      | false =>
        have hbe := belowN_at (key := key) hbel hj (fun k hk => by rw [hat] at hk; cases hk; exact hlt)
        have hi : isN key n.ks = bytesEq n.ks[j] key := by
          unfold isN
          rw [hbe, hat, beqT]
          simp
        repeat refine LS.seq ?_
        refine LS.region rfl ?_
        refine OS.pure rfl (fun _ => rfl) rfl ?_
        refine OS.pure rfl (fun _ => rfl) rfl ?_
        refine OS.read rfl (e_load 0 rfl rfl rfl rfl rfl) rfl ?_
        refine OS.pure rfl (e_len h.k rfl rfl rfl rfl rfl) rfl ?_
        refine OS.pure rfl (e_is (fun _ => rfl) (congrArg Value.bool b1)) rfl ?_
        refine OS.pure rfl (fun _ => rfl) rfl ?_
        refine OS.pure rfl (fun _ => rfl) rfl ?_
        refine OS.read rfl (e_load 0 rfl rfl rfl rfl rfl) rfl ?_
        refine OS.pure rfl (fun _ => rfl) rfl ?_
        refine OS.at1 (j := j) h.k (tx_at hjk) rfl rfl rfl rfl rfl rfl (fun r0 o0 row0 cs0 m0 c0 g0 => ?_)
        refine ⟨_, rfl, ?_⟩
        refine OS.read rfl (e_loadm m0 c0 rfl rfl (part_one rfl g0)) rfl ?_
        refine OS.pure rfl (fun _ => rfl) rfl ?_
        refine OS.pure rfl (e_is (fun _ => rfl) (congrArg Value.bool hlt)) rfl ?_
        refine OS.pure rfl (fun _ => rfl) rfl ?_
        refine OS.nil ?_
        repeat refine LS.seq ?_
        refine LS.cond rfl (fun hc => ?_) (fun hc => ?_)
        · cases hc
        refine LS.exit ?_
        repeat refine LS.seq ?_
        refine LS.drawn noGo mixed [(0, false), (1, false), (2, false), (3, false), (4, false), (5, false), (6, false), (7, false), (8, false), (9, false), (10, false), (11, false), (12, false), (13, false), (14, false), (15, false), (16, false)] rfl rfl (by kernel_rfl) ?_
        refine ODS.pure rfl rfl (fun _ => rfl) rfl ?_
        refine ODS.pure rfl rfl (fun _ => rfl) rfl ?_
        refine ODS.pure rfl rfl (fun _ => rfl) rfl ?_
        refine ODS.read rfl rfl (e_load 0 rfl rfl rfl rfl rfl) rfl ?_
        refine ODS.pure rfl rfl (e_len h.k rfl rfl rfl rfl rfl) rfl ?_
        refine ODS.pure rfl rfl (e_is (fun _ => rfl) (congrArg Value.bool b1)) rfl ?_
        refine ODS.pure rfl rfl (fun _ => rfl) rfl ?_
        refine ODS.pure rfl rfl (fun _ => rfl) rfl ?_
        refine ODS.read rfl rfl (e_load 0 rfl rfl rfl rfl rfl) rfl ?_
        refine ODS.pure rfl rfl (fun _ => rfl) rfl ?_
        refine ODS.at1 (j := j) h.k (tx_at hjk) rfl rfl rfl rfl rfl rfl rfl (fun r0 o0 row0 cs0 m0 c0 g0 => ⟨_, rfl, ?_⟩)
        refine ODS.read rfl rfl (e_loadm m0 c0 rfl rfl (part_one rfl g0)) rfl ?_
        refine ODS.pure rfl rfl (fun _ => rfl) rfl ?_
        refine ODS.pure rfl rfl (fun _ => rfl) rfl ?_
        refine ODS.pure rfl rfl (fun _ => rfl) rfl ?_
        refine ODS.pure rfl rfl (fun _ => rfl) rfl ?_
        refine ODS.pure rfl rfl (fun _ => rfl) rfl ?_
        refine ODS.nil ?_
        refine LS.ret ⟨_, fun _ _ => rfl, ?_⟩
        exact ⟨by rw [hbe, hi]; rfl, [_], rfl⟩
    · have b1 : (!ileB (n.ks.length : Int) (j : Nat)) = false := by rw [ileB_eq]; simp; omega
      have hbe := belowN_at (key := key) hbel hj (fun k hk => by rw [List.getElem?_eq_none (by omega)] at hk; cases hk)
      have hi : isN key n.ks = false := by unfold isN; rw [hbe, List.getElem?_eq_none (by omega)]; simp
      repeat refine LS.seq ?_
      refine LS.region rfl ?_
      refine OS.pure rfl (fun _ => rfl) rfl ?_
      refine OS.pure rfl (fun _ => rfl) rfl ?_
      refine OS.read rfl (e_load 0 rfl rfl rfl rfl rfl) rfl ?_
      refine OS.pure rfl (e_len h.k rfl rfl rfl rfl rfl) rfl ?_
      refine OS.pure rfl (e_is (fun _ => rfl) (congrArg Value.bool b1)) rfl ?_
      refine OS.pure rfl (fun _ => rfl) rfl ?_
      refine OS.skip rfl rfl ?_
      refine OS.skip rfl rfl ?_
      refine OS.skip rfl rfl ?_
      refine OS.skip rfl rfl ?_
      refine OS.skip rfl rfl ?_
      refine OS.skip rfl rfl ?_
      refine OS.skip rfl rfl ?_
      refine OS.pure rfl (fun _ => rfl) rfl ?_
      refine OS.nil ?_
      repeat refine LS.seq ?_
      refine LS.cond rfl (fun hc => ?_) (fun hc => ?_)
      · cases hc
      refine LS.exit ?_
      repeat refine LS.seq ?_
      refine LS.drawn noGo mixed [(0, false), (1, false), (2, false), (3, false), (4, false), (5, false), (6, false), (7, false), (8, false), (9, false), (10, false), (11, false), (12, false), (13, false), (14, false), (15, false), (16, false)] rfl rfl (by kernel_rfl) ?_
      refine ODS.pure rfl rfl (fun _ => rfl) rfl ?_
      refine ODS.pure rfl rfl (fun _ => rfl) rfl ?_
      refine ODS.pure rfl rfl (fun _ => rfl) rfl ?_
      refine ODS.read rfl rfl (e_load 0 rfl rfl rfl rfl rfl) rfl ?_
      refine ODS.pure rfl rfl (e_len h.k rfl rfl rfl rfl rfl) rfl ?_
      refine ODS.pure rfl rfl (e_is (fun _ => rfl) (congrArg Value.bool b1)) rfl ?_
      refine ODS.pure rfl rfl (fun _ => rfl) rfl ?_
      refine ODS.skip rfl rfl rfl ?_
      refine ODS.skip rfl rfl rfl ?_
      refine ODS.skip rfl rfl rfl ?_
      refine ODS.skip rfl rfl rfl ?_
      refine ODS.skip rfl rfl rfl ?_
      refine ODS.skip rfl rfl rfl ?_
      refine ODS.skip rfl rfl rfl ?_
      refine ODS.pure rfl rfl (fun _ => rfl) rfl ?_
      refine ODS.pure rfl rfl (fun _ => rfl) rfl ?_
      refine ODS.pure rfl rfl (fun _ => rfl) rfl ?_
      refine ODS.nil ?_
      refine LS.ret ⟨_, fun _ _ => rfl, ?_⟩
      exact ⟨by rw [hbe, hi]; rfl, [_], rfl⟩
end Go.Proofs.Ytdffhllecojgcaa
