/- Layer 6, the program's: a node's bytes. -/
import Derived.Test.YtdffhllecojgcaaNe
namespace Go.Proofs.Ytdffhllecojgcaa
open Go.Am
set_option linter.unusedVariables false
set_option maxRecDepth 20000

abbrev bRow (bs : List UInt8) : ARow := .cells 5 (byteCells bs)
abbrev bSl (r : Nat) (bs : List UInt8) : Value := .slice (some ⟨r, 0, none⟩) bs.length openCap
theorem brow_sv {L : RL} {r : Nat} {bs : List UInt8} : SV 1 ((r, bRow bs) :: L) (bSl r bs) bs.length (byteCells bs) := SV.row (List.mem_cons_self ..) (by rw [byteCells_len]; omega)
theorem headD_get {l : List Int} (h : 0 < l.length) : l[0] = l.headD 0 := by cases l with
  | nil => simp at h
  | cons c r => rfl
theorem cnt_nat {m : Nat} (h : m ≤ 2147483647) : cnt (m : Int) = grp m := by unfold cnt; rw [if_pos (by omega)]; rfl
theorem Str0_ct {L : RL} {s : List UInt8} (hs : s.length ≤ 200000) : CS Try.prog 47 [.slice none 0 0, txt s] L fun v L' => ∃ r, v = bSl r (tB s) ∧ L' = (r, bRow (tB s)) :: L := by
  refine (Str_ct (n := 0) (bs := []) hs (.inl ⟨rfl, rfl, rfl⟩) (by omega)).mono ?_
  rintro v L' ⟨r, rfl, rfl⟩
  rw [cnt_nat (by omega)]
  exact ⟨r, by rw [Nat.zero_add]; unfold bSl tB; rw [List.length_append], rfl⟩
theorem Count0_ct {L : RL} {z : Int} : CS Try.prog 44 [.slice none 0 0, .int .i64 z] L fun v L' => ∃ r, v = bSl r (cnt z) ∧ L' = (r, bRow (cnt z)) :: L := by
  refine (Count_ct (n := 0) (bs := []) z (.inl ⟨rfl, rfl, rfl⟩) (by omega)).mono ?_
  rintro v L' ⟨r, rfl, rfl⟩
  exact ⟨r, by rw [Nat.zero_add], rfl⟩
theorem beh1_ct {L : RL} {rn : Nat} {b : Bool} {v1 v2 v3 : Value} {vs : List (List UInt8)} {j : Nat} (hm : (rn, ndRow b v1 v2 v3) ∈ L) (hv : SV 1 L v2 vs.length (tx vs)) (hj : j < vs.length) (hl : vs[j].length ≤ 200000) :
    CS Try.prog 46 [.int .i64 (j : Nat), .pointer (some ⟨rn, 0, none⟩)] L fun v L' => ∃ r, v = bSl r (tB vs[j]) ∧ L' = (r, bRow (tB vs[j])) :: L := by
  refine CS.mk (fn := Try.f46) rfl rfl rfl rfl ?_
  repeat refine LS.seq ?_
  refine LS.region rfl ?_
  refine OS.pure rfl (fun _ => rfl) rfl ?_
  refine OS.nil ?_
  repeat refine LS.seq ?_
  refine LS.region rfl ?_
  refine OS.pure rfl (fun _ => rfl) rfl ?_
  refine OS.read rfl (e_loadm hm rfl rfl rfl rfl) rfl ?_
  refine OS.pure rfl (fun _ => rfl) rfl ?_
  refine OS.at1 (j := j) hv (tx_at hj) rfl rfl rfl rfl rfl rfl (fun r0 o0 row0 cs0 m0 c0 g0 => ?_)
  refine ⟨_, rfl, ?_⟩
  refine OS.read rfl (e_loadm m0 c0 rfl rfl (part_one rfl g0)) rfl ?_
  refine OS.call noGo rfl (fun _ => rfl) ((Str0_ct hl).mono ?_)
  rintro u L₁ ⟨r, rfl, rfl⟩
  refine ⟨_, rfl, ?_⟩
  refine OS.pure rfl (fun _ => rfl) rfl ?_
  refine OS.nil ?_
  refine LS.ret ⟨_, fun _ _ => rfl, ?_⟩
  exact ⟨r, rfl, rfl⟩
theorem beh2_ct {L : RL} {rn : Nat} {b : Bool} {v1 v2 v3 : Value} {zs : List Int} {j : Nat} (hm : (rn, ndRow b v1 v2 v3) ∈ L) (hv : SV 1 L v3 zs.length (nums zs)) (hn : zs.length ≤ 9000000000000000) (hj : j + 1 < zs.length) :
    CS Try.prog 48 [.int .i64 (j : Nat), .pointer (some ⟨rn, 0, none⟩)] L fun v L' => ∃ r, v = bSl r (cnt zs[j + 1]) ∧ L' = (r, bRow (cnt zs[j + 1])) :: L := by
  refine CS.mk (fn := Try.f48) rfl rfl rfl rfl ?_
  repeat refine LS.seq ?_
  refine LS.region rfl ?_
  refine OS.pure rfl (fun _ => rfl) rfl ?_
  refine OS.nil ?_
  repeat refine LS.seq ?_
  refine LS.region rfl ?_
  refine OS.pure rfl (fun _ => rfl) rfl ?_
  refine OS.read rfl (e_loadm hm rfl rfl rfl rfl) rfl ?_
  refine OS.pure rfl (fun _ => rfl) rfl ?_
  refine OS.pure rfl (e_add (m := j) (n := 1) rfl rfl rfl (in_i64 (by omega) (by omega))) rfl ?_
  refine OS.at1 (j := j + 1) hv (nums_at hj) rfl rfl rfl rfl rfl rfl (fun r0 o0 row0 cs0 m0 c0 g0 => ?_)
  refine ⟨_, rfl, ?_⟩
  refine OS.read rfl (e_loadm m0 c0 rfl rfl (part_one rfl g0)) rfl ?_
  refine OS.call noGo rfl (fun _ => rfl) ((Count0_ct).mono ?_)
  rintro u L₁ ⟨r, rfl, rfl⟩
  refine ⟨_, rfl, ?_⟩
  refine OS.pure rfl (fun _ => rfl) rfl ?_
  refine OS.nil ?_
  refine LS.ret ⟨_, fun _ _ => rfl, ?_⟩
  exact ⟨r, rfl, rfl⟩
theorem body_ct {L : RL} {n : Nd} {v1 v2 v3 : Value} (h : NV L n v1 v2 v3) (hm : mayN n = true) (hn : n.ks.length ≤ 1000000) :
    CS Try.prog 25 [ndV n.leaf v1 v2 v3] L fun u L' => ∃ r, u = bSl r (bodyN n) ∧ L' = (r, bRow (bodyN n)) :: L := by
  suffices g : CS Try.prog 25 [ndV n.leaf v1 v2 v3] L fun u L' => ∃ r x, u = bSl r (bodyN n) ∧ L' = (r, bRow (bodyN n)) :: x :: L by
    exact g.less fun u L' ⟨r, x, h1, h2⟩ => ⟨_, by rw [h2]; exact Sub.cons Sub.tail, r, h1, rfl⟩
  have hle := body_le hm hn
  have hbl := beh_len hm
  have hkl := may_ks hm
  have hble := beh_le hm
  refine CS.mk (fn := Try.f25) rfl rfl rfl rfl ?_
  repeat refine LS.seq ?_
  refine LS.region rfl ?_
  refine OS.fresh rfl (e_new (fun _ => rfl) rfl) (fun _ => rfl) (fun rn => ?_)
  refine OS.pure rfl (fun _ => rfl) rfl ?_
  refine OS.nil ?_
  have h0 := h
  have h := h.cons (x := (rn, ndRow n.leaf v1 v2 v3))
  repeat refine LS.seq ?_
  refine LS.drawn noGo mixed [(0, false), (1, false), (3, false), (4, false), (5, false), (2, true), (6, true), (7, false)] rfl rfl (by kernel_rfl) ?_
  refine ODS.pure rfl rfl (fun _ => rfl) rfl ?_
  refine ODS.read rfl rfl (e_load 0 rfl rfl rfl rfl rfl) rfl ?_
  refine ODS.pure rfl rfl (fun _ => rfl) rfl ?_
  refine ODS.read rfl rfl (e_load 0 rfl rfl rfl rfl rfl) rfl ?_
  refine ODS.pure rfl rfl (e_len h.k rfl rfl rfl rfl rfl) rfl ?_
  refine ODS.call rfl rfl (fun _ => rfl) (((Flag_ct (n := 0) (bs := []) n.leaf (.inl ⟨rfl, rfl, rfl⟩) (by omega))).mono ?_)
  rintro u L' ⟨r, rfl, rfl⟩
  refine ⟨_, rfl, Keep.cons rfl (e_load 1 rfl rfl rfl rfl rfl) (Keep.gone rfl Keep.nil), ?_⟩
  refine ODS.call rfl rfl (fun _ => rfl) (((Count_ct (n := 0 + 1) (bs := [] ++ [if n.leaf then 1 else 0]) (n.ks.length : Int) (SV.row (List.mem_cons_self ..) (by simp [byteCells])) (by omega))).mono ?_)
  rintro u L' ⟨r1, rfl, rfl⟩
  refine ⟨_, rfl, Keep.gone rfl (Keep.gone rfl Keep.nil), ?_⟩
  rw [cnt_nat (by omega)]
  refine ODS.pure rfl rfl (fun _ => rfl) rfl ?_
  refine ODS.nil ?_
  have hhead : [] ++ [if n.leaf then (1 : UInt8) else 0] ++ grp n.ks.length = headN n := rfl
  rw [hhead]
  have hhl : 0 + 1 + (grp n.ks.length).length = (headN n).length := by unfold headN; simp; omega
  rw [hhl]
  repeat refine LS.seq ?_
  refine LS.region rfl ?_
  refine OS.sub (Sub.drop 1 rfl) ?_
  refine OS.pure rfl (fun _ => rfl) rfl ?_
  refine OS.pure rfl (fun _ => rfl) rfl ?_
  refine OS.nil ?_
  repeat refine LS.seq ?_
  refine LS.region rfl ?_
  refine OS.pure rfl (fun _ => rfl) rfl ?_
  refine OS.read rfl (e_load 1 rfl rfl rfl rfl rfl) rfl ?_
  refine OS.pure rfl (fun _ => rfl) rfl ?_
  refine OS.nil ?_
  repeat refine LS.seq ?_
  refine LS.mid [1, 3, 4] (fun a L' => ∃ rb acc f, L' = (rb, bRow acc) :: (rn, ndRow n.leaf v1 v2 v3) :: L ∧ acc ++ zipB n.ks (behN n) = bodyN n ∧
    (∀ (j : Nat) (hj : j < (behN n).length) (r0 : Nat) (acc0 : List UInt8), CS Try.prog f [.int .i64 (j : Nat), .pointer (some ⟨rn, 0, none⟩)] ((r0, bRow acc0) :: (rn, ndRow n.leaf v1 v2 v3) :: L) fun v L' => ∃ r, v = bSl r (behN n)[j] ∧ L' = (r, bRow (behN n)[j]) :: (r0, bRow acc0) :: (rn, ndRow n.leaf v1 v2 v3) :: L) ∧
    a = [.chan none, .pointer (some ⟨rn, 0, none⟩), .chan none, bSl rb acc, .func (.func f) #[] #[.pointer (some ⟨rn, 0, none⟩)], .chan none, .chan none, .chan none, .chan none, .chan none, .chan none, .chan none, .chan none, .chan none, .chan none, .chan none, .chan none, .chan none, .chan none, .chan none, .chan none, .chan none, .chan none, .chan none, .chan none, .chan none, .chan none, .chan none, .chan none, .chan none, .chan none, .chan none, .chan none, .chan none, .chan none, .chan none, .chan none, .chan none, .chan none, .chan none, .chan none, .chan none, .chan none, .chan none]) ?_ ?_
  · refine LS.cond (b := !n.leaf) rfl (fun hc => ?_) (fun hc => ?_)
    · have hlf : n.leaf = false := by simpa using hc
      obtain ⟨hkn, hv0, hkz⟩ := may_kids hm hlf
      have hk0 : 0 < n.kids.length := by omega
      have hz := h.z
      repeat refine LS.seq ?_
      refine LS.region rfl ?_
      refine OS.pure rfl (fun _ => rfl) rfl ?_
      refine OS.pure rfl (fun _ => rfl) rfl ?_
      refine OS.read rfl (e_load 1 rfl rfl rfl rfl rfl) rfl ?_
      refine OS.at1 (j := 0) (hz.cons (x := (r1, bRow (headN n)))) (nums_at hk0) rfl rfl rfl rfl rfl rfl (fun r0 o0 row0 cs0 m0 c0 g0 => ?_)
      refine ⟨_, rfl, ?_⟩
      refine OS.read rfl (e_loadm m0 c0 rfl rfl (part_one rfl g0)) rfl ?_
      refine OS.call noGo rfl (fun _ => rfl) (((Count_ct (n := (headN n).length) (bs := headN n) n.kids[0] (SV.row (List.mem_cons_self ..) (by rw [byteCells_len]; omega)) (by unfold bodyN at hle; simp at hle; omega))).mono ?_)
      rintro u L' ⟨r2, rfl, rfl⟩
      refine ⟨_, rfl, ?_⟩
      refine OS.sub (Sub.drop 1 rfl) ?_
      refine OS.pure rfl (fun _ => rfl) rfl ?_
      refine OS.nil ?_
      repeat refine LS.seq ?_
      refine LS.region rfl ?_
      refine OS.pure rfl (fun _ => rfl) rfl ?_
      refine OS.pure rfl (fun _ => rfl) rfl ?_
      refine OS.nil ?_
      refine ⟨r2, headN n ++ cnt n.kids[0], _, rfl, ?_, fun j hj r0 acc0 => ?_, by unfold bSl; rw [List.length_append]; rfl⟩
      · unfold bodyN firstN
        rw [hlf, if_neg (by decide), List.append_assoc]
        congr 3
        exact headD_get hk0
      · have hj' : j + 1 < n.kids.length := by rw [hbl] at hj; omega
        have hb : (behN n)[j] = cnt n.kids[j + 1] := by
          simp only [behN, hlf]
          simp
        rw [hb]
        exact beh2_ct (List.mem_cons_of_mem _ (List.mem_cons_self ..)) hz.cons h.zn hj'
    · have hlf : n.leaf = true := by simpa using hc
      obtain ⟨hvn, hkn, hvl⟩ := may_vs hm hlf
      have hvv := h.v
      refine LS.skip ?_
      refine ⟨r1, headN n, _, rfl, ?_, fun j hj r0 acc0 => ?_, rfl⟩
      · unfold bodyN firstN
        rw [hlf, if_pos rfl, List.nil_append]
      · have hj' : j < n.vs.length := by rw [hbl] at hj; omega
        have hb : (behN n)[j] = tB n.vs[j] := by
          simp only [behN, hlf]
          simp
        rw [hb]
        exact beh1_ct (List.mem_cons_of_mem _ (List.mem_cons_self ..)) hvv.cons hj' (by have := hvl _ (List.getElem_mem hj'); omega)
  rintro a L' ⟨rb, acc, f, rfl, hacc, hf, rfl⟩
  repeat refine LS.seq ?_
  refine LS.region rfl ?_
  refine OS.pure rfl (fun _ => rfl) rfl ?_
  refine OS.read rfl (e_load 1 rfl rfl rfl rfl rfl) rfl ?_
  refine OS.pure rfl (e_len (h.k.cons (x := (rb, bRow acc))) rfl rfl rfl rfl rfl) rfl ?_
  refine OS.pure rfl (fun _ => rfl) rfl ?_
  refine OS.nil ?_
  repeat refine LS.seq ?_
  refine LS.block ?_
  refine LS.loopJ [1, 3, 4, 26, 27, 28] (fun q a L' => ∃ j rb acc, q = n.ks.length - j ∧ j ≤ n.ks.length ∧ L' = (rb, bRow acc) :: (rn, ndRow n.leaf v1 v2 v3) :: L ∧ acc ++ zipB (n.ks.drop j) ((behN n).drop j) = bodyN n ∧
    a = [.chan none, .pointer (some ⟨rn, 0, none⟩), .chan none, bSl rb acc, .func (.func f) #[] #[.pointer (some ⟨rn, 0, none⟩)], .chan none, .chan none, .chan none, .chan none, .chan none, .chan none, .chan none, .chan none, .chan none, .chan none, .chan none, .chan none, .chan none, .chan none, .chan none, .chan none, .chan none, .chan none, .chan none, .chan none, .chan none, v1, .int .i64 (n.ks.length : Nat), .int .i64 (j : Nat), .chan none, .chan none, .chan none, .chan none, .chan none, .chan none, .chan none, .chan none, .chan none, .chan none, .chan none, .chan none, .chan none, .chan none, .chan none]) (n := n.ks.length) rfl ⟨0, rb, acc, rfl, by omega, rfl, hacc, rfl⟩ ?_
  rintro q a L' ⟨j, rb, acc, rfl, hj, rfl, hacc, rfl⟩
  repeat refine LS.seq ?_
  refine LS.region rfl ?_
  refine OS.pure rfl (fun _ => rfl) rfl ?_
  refine OS.nil ?_
  repeat refine LS.seq ?_
  refine LS.cond rfl (fun hc => ?_) (fun hc => ?_)
  · have hc : (j : Int) < n.ks.length := lt_of hc
    have hjk : j < n.ks.length := by omega
    have hjb : j < (behN n).length := by omega
    have hkj := hkl _ (List.getElem_mem hjk)
    have hbj := hble _ (List.getElem_mem hjb)
    rw [List.drop_eq_getElem_cons hjk, List.drop_eq_getElem_cons hjb] at hacc
    simp only [zipB] at hacc
    have hlen := congrArg List.length hacc
    simp only [List.length_append] at hlen
    have htl := tB_len (s := n.ks[j]) (by omega)
    refine LS.skip ?_
    repeat refine LS.seq ?_
    refine LS.block ?_
    repeat refine LS.seq ?_
    refine LS.region rfl ?_
    refine OS.pure rfl (fun _ => rfl) rfl ?_
    refine OS.at1 (j := j) (h.k.cons (x := (rb, bRow acc))) (tx_at hjk) rfl rfl rfl rfl rfl rfl (fun r0 o0 row0 cs0 m0 c0 g0 => ?_)
    refine ⟨_, rfl, ?_⟩
    refine OS.read rfl (e_loadm m0 c0 rfl rfl (part_one rfl g0)) rfl ?_
    refine OS.pure rfl (fun _ => rfl) rfl ?_
    refine OS.pure rfl (fun _ => rfl) rfl ?_
    refine OS.nil ?_
    repeat refine LS.seq ?_
    refine LS.region rfl ?_
    refine OS.pure rfl (fun _ => rfl) rfl ?_
    refine OS.pure rfl (fun _ => rfl) rfl ?_
    refine OS.call noGo rfl (fun _ => rfl) ((Str0_ct (by omega)).mono ?_)
    rintro u L' ⟨r2, rfl, rfl⟩
    refine ⟨_, rfl, ?_⟩
    refine OS.fresh rfl (e_appendSV 1 (sz := 1) (bts := 1) (n := (tB n.ks[j]).length) brow_sv (byteCells_one _) rfl rfl rfl (by omega) (by omega) rfl (cut_all (by rw [byteCells_len]; omega)) rfl) (fun _ => rfl) (fun r3 => ?_)
    refine OS.sub (Sub.drop 1 rfl) ?_
    refine OS.pure rfl (fun _ => rfl) rfl ?_
    refine OS.nil ?_
    rw [← byteCells_append, ← List.length_append]
    repeat refine LS.seq ?_
    refine LS.region rfl ?_
    refine OS.pure rfl (fun _ => rfl) rfl ?_
    refine OS.pure rfl (fun _ => rfl) rfl ?_
    refine OS.pure rfl (fun _ => rfl) rfl ?_
    refine OS.call noGo rfl (fun _ => rfl) ((hf j hjb r3 (acc ++ tB n.ks[j])).mono ?_)
    rintro u L' ⟨r4, rfl, rfl⟩
    refine ⟨_, rfl, ?_⟩
    refine OS.fresh rfl (e_appendSV 1 (sz := 1) (bts := 1) (n := (behN n)[j].length) brow_sv (byteCells_one _) rfl rfl rfl (by simp only [List.length_append]; omega) (by simp only [List.length_append]; omega) rfl (cut_all (by rw [byteCells_len]; omega)) rfl) (fun _ => rfl) (fun r5 => ?_)
    refine OS.sub (Sub.drop 1 rfl) ?_
    refine OS.pure rfl (fun _ => rfl) rfl ?_
    refine OS.nil ?_
    rw [← byteCells_append, ← List.length_append]
    repeat refine LS.seq ?_
    refine LS.region rfl ?_
    refine OS.pure rfl (e_add (m := j) (n := 1) rfl rfl rfl (in_i64 (by omega) (by omega))) rfl ?_
    refine OS.pure rfl (fun _ => rfl) rfl ?_
    refine OS.nil ?_
    refine ⟨n.ks.length - (j + 1), by omega, j + 1, r5, acc ++ tB n.ks[j] ++ (behN n)[j], rfl, by omega, rfl, ?_, rfl⟩
    rw [← hacc]
    simp only [List.append_assoc]
  · have hc : (n.ks.length : Int) ≤ (j : Int) := nlt_of hc
    have hje : j = n.ks.length := by omega
    subst hje
    rw [List.drop_length] at hacc
    simp only [zipB, List.append_nil] at hacc
    subst hacc
    refine LS.exit ?_
    repeat refine LS.seq ?_
    refine LS.region rfl ?_
    refine OS.pure rfl (fun _ => rfl) rfl ?_
    refine OS.pure rfl (fun _ => rfl) rfl ?_
    refine OS.nil ?_
    refine LS.ret ⟨_, fun _ _ => rfl, ?_⟩
    exact ⟨rb, _, rfl, rfl⟩
def sizeV (n : Nd) : Value := .int .i64 (sizeN n : Nat)
theorem Size_ct {L : RL} {n : Nd} {v1 v2 v3 : Value} (h : NV L n v1 v2 v3) (hn : n.ks.length ≤ 1000000) : CS Try.prog 16 [ndV n.leaf v1 v2 v3] L fun u L' => u = sizeV n ∧ L' = L := by
  suffices g : CS Try.prog 16 [ndV n.leaf v1 v2 v3] L fun u L' => u = sizeV n ∧ ∃ X, L' = X ++ L by
    exact g.less fun u L' ⟨h1, x, h2⟩ => ⟨L, by rw [h2]; exact Sub.suffix, h1, rfl⟩
  refine CS.mk (fn := Try.f16) rfl rfl rfl rfl ?_
  repeat refine LS.seq ?_
  refine LS.region rfl ?_
  refine OS.fresh rfl (e_new (fun _ => rfl) rfl) (fun _ => rfl) (fun rn => ?_)
  refine OS.pure rfl (fun _ => rfl) rfl ?_
  refine OS.nil ?_
  have h := h.cons (x := (rn, ndRow n.leaf v1 v2 v3))
  repeat refine LS.seq ?_
  refine LS.region rfl ?_
  refine OS.read rfl (e_load 0 rfl rfl rfl rfl rfl) rfl ?_
  refine OS.call noGo rfl (fun _ => rfl) ((mayBe_ct h).mono ?_)
  rintro u L₁ ⟨rfl, e₁⟩
  subst e₁
  refine ⟨_, rfl, ?_⟩
  refine OS.pure rfl (fun _ => rfl) rfl ?_
  refine OS.nil ?_
  unfold sizeV sizeN
  cases hm : mayN n with
  | false =>
    rw [if_neg (by decide)]
    repeat refine LS.seq ?_
    refine LS.cond rfl (fun hc => ?_) (fun hc => ?_)
    · repeat refine LS.seq ?_
      refine LS.region rfl ?_
      refine OS.pure rfl (fun _ => rfl) rfl ?_
      refine OS.nil ?_
      refine LS.ret ⟨_, fun _ _ => rfl, ?_⟩
      exact ⟨rfl, [_], rfl⟩
    · cases hc
  | true =>
    rw [if_pos rfl]
    repeat refine LS.seq ?_
    refine LS.cond rfl (fun hc => ?_) (fun hc => ?_)
    · cases hc
    refine LS.skip ?_
    repeat refine LS.seq ?_
    refine LS.region rfl ?_
    refine OS.read rfl (e_load 0 rfl rfl rfl rfl rfl) rfl ?_
    refine OS.call noGo rfl (fun _ => rfl) ((body_ct h hm hn).mono ?_)
    rintro u L' ⟨r, rfl, rfl⟩
    refine ⟨_, rfl, ?_⟩
    refine OS.pure rfl (e_len (brow_sv (L := [])) rfl rfl rfl rfl rfl) rfl ?_
    refine OS.pure rfl (fun _ => rfl) rfl ?_
    refine OS.nil ?_
    refine LS.ret ⟨_, fun _ _ => rfl, ?_⟩
    exact ⟨rfl, [_, _], rfl⟩
theorem Fits_ct {L : RL} {n : Nd} {v1 v2 v3 : Value} (h : NV L n v1 v2 v3) (hn : n.ks.length ≤ 1000000) : CS Try.prog 18 [ndV n.leaf v1 v2 v3] L fun u L' => u = .bool (fitsN n) ∧ L' = L := by
  suffices g : CS Try.prog 18 [ndV n.leaf v1 v2 v3] L fun u L' => u = .bool (fitsN n) ∧ ∃ X, L' = X ++ L by
    exact g.less fun u L' ⟨h1, x, h2⟩ => ⟨L, by rw [h2]; exact Sub.suffix, h1, rfl⟩
  refine CS.mk (fn := Try.f18) rfl rfl rfl rfl ?_
  repeat refine LS.seq ?_
  refine LS.region rfl ?_
  refine OS.fresh rfl (e_new (fun _ => rfl) rfl) (fun _ => rfl) (fun rn => ?_)
  refine OS.pure rfl (fun _ => rfl) rfl ?_
  refine OS.nil ?_
  have h := h.cons (x := (rn, ndRow n.leaf v1 v2 v3))
  repeat refine LS.seq ?_
  refine LS.region rfl ?_
  refine OS.read rfl (e_load 0 rfl rfl rfl rfl rfl) rfl ?_
  refine OS.call noGo rfl (fun _ => rfl) ((mayBe_ct h).mono ?_)
  rintro u L₁ ⟨rfl, e₁⟩
  subst e₁
  unfold fitsN
  cases hm : mayN n with
  | false =>
    refine ⟨_, rfl, ?_⟩
    refine OS.pure rfl (fun _ => rfl) rfl ?_
    refine OS.skip rfl rfl ?_
    refine OS.skip rfl rfl ?_
    refine OS.skip rfl rfl ?_
    refine OS.skip rfl rfl ?_
    refine OS.pure rfl (fun _ => rfl) rfl ?_
    refine OS.pure rfl (fun _ => rfl) rfl ?_
    refine OS.nil ?_
    refine LS.ret ⟨_, fun _ _ => rfl, ?_⟩
    exact ⟨rfl, [_], rfl⟩
  | true =>
    refine ⟨_, rfl, ?_⟩
    refine OS.pure rfl (fun _ => rfl) rfl ?_
    refine OS.read rfl (e_load 0 rfl rfl rfl rfl rfl) rfl ?_
    refine OS.call noGo rfl (fun _ => rfl) ((body_ct h hm hn).mono ?_)
    rintro u L' ⟨r, rfl, rfl⟩
    have hb : ileB ((bodyN n).length : Int) 256 = decide ((bodyN n).length ≤ 256) := by rw [ileB_eq]; by_cases h : (bodyN n).length ≤ 256 <;> simp [h] <;> omega
    refine ⟨_, rfl, ?_⟩
    refine OS.pure rfl (e_len (brow_sv (L := [])) rfl rfl rfl rfl rfl) rfl ?_
    refine OS.pure rfl (e_is (fun _ => rfl) (congrArg Value.bool hb)) rfl ?_
    refine OS.pure rfl (fun _ => rfl) rfl ?_
    refine OS.pure rfl (fun _ => rfl) rfl ?_
    refine OS.nil ?_
    refine LS.ret ⟨_, fun _ _ => rfl, ?_⟩
    exact ⟨rfl, [_, _], rfl⟩
end Go.Proofs.Ytdffhllecojgcaa
