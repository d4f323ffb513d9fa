/- bastionlaw01.CodeCuts answers true (2): the law. -/
import Derived.Test.YtnfenpkkhkdkhaaLg
namespace Go.Proofs.Ytnfenpkkhkdkhaa
open Go.Am
set_option linter.unusedVariables false
set_option maxRecDepth 20000

theorem works_true : answersTrue Try.prog nothing 1000 50 22 = true := by kernel_rfl
theorem works_ct {L : RL} : CS Try.prog 22 [] L fun v L' => v = .bool true ∧ L' = L := CS.closed_true noGo mixed works_true

/-- A number as a count. -/
def mask (n : Int) : Int := wrapB .i64 ((bitsB .i64 n &&& bitsB .i64 2147483647 : Nat) : Int)
theorem mask_ok (n : Int) : 0 ≤ mask n ∧ mask n ≤ 2147483647 := by
  have h1 : bitsB .i64 2147483647 = 2147483647 := by decide
  have h2 : bitsB .i64 n &&& 2147483647 ≤ 2147483647 := Nat.and_le_right
  unfold mask
  rw [h1, wrap_in (in_i64 (by omega) (by omega))]
  omega
/-- A thing as it is laid. -/
def rw1 (t : Th) : Th := if t.k = 1 then ⟨t.k, mask t.n, t.s⟩ else t
theorem rw1_ok {t : Th} (h : t.ok) : (rw1 t).ok := by
  unfold rw1
  split
  · have := mask_ok t.n
    exact ⟨by simp only; omega, by simp only; omega, h.2.2⟩
  · exact h
theorem rw1_s (t : Th) : (rw1 t).s = t.s := by unfold rw1; split <;> rfl
theorem rw1_may (t : Th) : (rw1 t).mayBe := by
  unfold rw1 Th.mayBe
  split
  · exact fun _ => mask_ok t.n
  · rename_i h; exact fun hh => absurd hh h

/-- Where the things end. -/
def ends (B : Nat → List UInt8) (n : Nat) : List Value := (List.range n).map fun j => .int .i64 ((B (j + 1)).length : Nat)
theorem ends_get {B : Nat → List UInt8} {n j : Nat} (h : j < n) : (ends B n)[j]? = some (.int .i64 ((B (j + 1)).length : Nat)) := by simp [ends, h]
theorem ends_succ {B : Nat → List UInt8} {n : Nat} : ends B (n + 1) = ends B n ++ [.int .i64 ((B (n + 1)).length : Nat)] := by simp [ends, List.range_succ]
theorem ends_len {B : Nat → List UInt8} {n : Nat} : (ends B n).length = n := by simp [ends]

theorem laid_prefix {bs : List UInt8} {us : List Th} {i j : Nat} (h : i ≤ j) : laidAt bs us i <+: laidAt bs us j := by
  unfold laidAt
  refine (List.prefix_append_right_inj bs).2 ?_
  obtain ⟨r, hr⟩ : us.take i <+: us.take j := List.take_prefix_take_left h
  rw [← hr, List.flatMap_append]
  exact List.prefix_append _ _

set_option maxHeartbeats 4000000 in
theorem cuts_ct {L : RL} {l : Value} {m : Nat} {ts : List Th} (c : Int) (hl : RO 3 L l m (ts.flatMap Th.cells)) (hok : ∀ t ∈ ts, t.ok) (hm : m ≤ 9223372036854775807) :
    CS Try.prog 5 [l, .int .i64 c] L fun v _ => v = .bool true := by
  have hlen : ts.length = m := by have := hl.sv.len; rw [flat_len] at this; omega
  refine CS.mk (fn := Try.f5) rfl rfl rfl rfl ?_
  repeat refine LS.seq ?_
  refine LS.region rfl ?_
  refine OS.pure rfl (fun _ => rfl) rfl ?_
  refine OS.nil ?_
  repeat refine LS.seq ?_
  refine LS.region rfl ?_
  refine OS.call noGo rfl (fun _ => rfl) ((works_ct).mono ?_)
  rintro v L' ⟨rfl, rfl⟩
  refine ⟨_, rfl, ?_⟩
  refine OS.pure rfl (fun _ => rfl) rfl ?_
  refine OS.pure rfl (fun _ => rfl) rfl ?_
  refine OS.pure rfl (fun _ => rfl) rfl ?_
  refine OS.call noGo rfl (fun _ => rfl) ((long_ct hl.sv hok hm).mono ?_)
  rintro v L' ⟨rfl, b0, rfl, hw⟩
  refine ⟨_, rfl, ?_⟩
  refine OS.pure rfl (fun _ => rfl) rfl ?_
  refine OS.nil ?_
  cases b0 with
  | true =>
    refine LS.cond rfl (fun hc => ?_) (fun hc => by cases hc)
    repeat refine LS.seq ?_
    refine LS.region rfl ?_
    refine OS.call noGo rfl (fun _ => rfl) ((works_ct).mono ?_)
    rintro v L' ⟨rfl, rfl⟩
    refine ⟨_, rfl, ?_⟩
    refine OS.pure rfl (fun _ => rfl) rfl ?_
    refine OS.nil ?_
    refine LS.ret ⟨_, fun _ _ => rfl, ?_⟩
    rfl
  | false =>
  have hw := hw rfl
  refine LS.cond rfl (fun hc => by cases hc) (fun hc => ?_)
  refine LS.skip ?_
  have hm1 := weigh_len ts
  let us := ts.map rw1
  have hus : us.length = m := by simp [us, hlen]
  have huok : ∀ t ∈ us, t.ok := fun t ht => by
    obtain ⟨x, hx, rfl⟩ := List.mem_map.1 ht
    exact rw1_ok (hok x hx)
  have hwu : weigh us = weigh ts := by
    have : ∀ xs : List Th, weigh (xs.map rw1) = weigh xs := by
      intro xs
      induction xs with
      | nil => rfl
      | cons x xs ih => simp only [List.map_cons, weigh, ih, rw1_s]
    exact this ts
  let B := laidAt [] us
  have hB : ∀ i, (B i).length ≤ 20000 := fun i => by have := laidAt_len (bs := []) huok i; rw [hwu] at this; show (laidAt [] us i).length ≤ _; simp at this; omega
  have hB0 : B 0 = [] := by show laidAt [] us 0 = []; simp [laidAt]
  repeat refine LS.seq ?_
  refine LS.region rfl ?_
  refine OS.pure rfl (fun _ => rfl) rfl ?_
  refine OS.nil ?_
  repeat refine LS.seq ?_
  refine LS.region rfl ?_
  refine OS.pure rfl (fun _ => rfl) rfl ?_
  refine OS.nil ?_
  repeat refine LS.seq ?_
  refine LS.region rfl ?_
  refine OS.pure rfl (fun _ => rfl) rfl ?_
  refine OS.nil ?_
  repeat refine LS.seq ?_
  refine LS.region rfl ?_
  refine OS.pure rfl (fun _ => rfl) rfl ?_
  refine OS.nil ?_
  repeat refine LS.seq ?_
  refine LS.block ?_
  refine LS.loopJ [0, 1, 4, 5, 6, 7, 8] (fun q a L => ∃ i T Le vb ve vr, q = m - i ∧ i ≤ m ∧ (∀ p, p ∈ L' → p ∈ T) ∧ OV T vb (B i) ∧ GV 3 1 T ve i (ends B i) Le ∧ GV 28 3 Le vr i ((us.take i).flatMap Th.cells) L ∧
    a = [l, .int .i64 c, .chan none, .chan none, .bool false, vb, ve, vr, .int .i64 (i : Nat), .chan none, .chan none, .chan none, .chan none, .chan none, .chan none, .chan none, .chan none, .chan none, .chan none, .chan none, .chan none, .chan none, .chan none, .chan none, .chan none, .chan none, .chan none, .chan none, .chan none, .chan none, .chan none, .chan none, .chan none, .chan none, .chan none, .chan none, .chan none, .chan none, .chan none, .chan none, .chan none, .chan none, .chan none, .chan none, .chan none, .chan none, .chan none, .chan none, .chan none, .chan none, .chan none, .chan none, .chan none, .chan none, .chan none, .chan none, .chan none, .chan none, .chan none, .chan none, .chan none, .chan none, .chan none, .chan none, .chan none, .chan none, .chan none, .chan none, .chan none, .chan none, .chan none, .chan none, .chan none, .chan none, .chan none, .chan none, .chan none, .chan none, .chan none, .chan none, .chan none, .chan none, .chan none, .chan none, .chan none, .chan none, .chan none, .chan none, .chan none, .chan none, .chan none, .chan none, .chan none, .chan none, .chan none, .chan none, .chan none, .chan none, .chan none, .chan none, .chan none, .chan none, .chan none, .chan none, .chan none, .chan none, .chan none, .chan none, .chan none, .chan none, .chan none, .chan none, .chan none, .chan none, .chan none, .chan none, .chan none, .chan none, .chan none, .chan none, .chan none, .chan none, .chan none, .chan none, .chan none, .chan none, .chan none, .chan none, .chan none, .chan none, .chan none, .chan none, .chan none, .chan none, .chan none, .chan none, .chan none, .chan none, .chan none, .chan none, .chan none]) (n := m) rfl
    ⟨0, L', L', .slice none 0 0, .slice none 0 0, .slice none 0 0, rfl, by omega, fun _ hp => hp, .inl ⟨rfl, hB0⟩, GV.nil, GV.nil, rfl⟩ ?_
  rintro q a L ⟨i, T, Le, vb, ve, vr, rfl, hi, hT, hvb, hge, hgr, rfl⟩
  have hnb := hB i
  repeat refine LS.seq ?_
  refine LS.region rfl ?_
  refine OS.pure rfl (fun _ => rfl) rfl ?_
  refine OS.pure rfl (fun _ => rfl) rfl ?_
  refine OS.pure rfl (e_len hl.sv rfl rfl rfl rfl rfl) rfl ?_
  refine OS.pure rfl (fun _ => rfl) rfl ?_
  refine OS.nil ?_
  repeat refine LS.seq ?_
  refine LS.cond rfl (fun hc => ?_) (fun hc => ?_)
  · have hc : (i : Int) < m := lt_of hc
    have hin : i < m := by omega
    have ht : ts[i]? = some ts[i] := List.getElem?_eq_getElem (by omega)
    have hu : us[i]? = some (rw1 ts[i]) := by simp [us, ht]
    have hto := hok ts[i] (List.getElem_mem (by omega))
    have hts : ts[i].s.data.toList.length ≤ 200000 := by have := weigh_mem (List.getElem_mem (l := ts) (n := i) (by omega)); omega
    have hsucc : B (i + 1) = B i ++ (rw1 ts[i]).enc := laidAt_succ hu
    have hnb1 := hB (i + 1)
    refine LS.skip ?_
    repeat refine LS.seq ?_
    refine LS.block ?_
    repeat refine LS.seq ?_
    refine LS.region rfl ?_
    refine OS.pure rfl (fun _ => rfl) rfl ?_
    refine OS.pure rfl (fun _ => rfl) rfl ?_
    refine OS.at (j := i) (hl.sv.mono fun p hp => hgr.mem p (hge.mem p (hT p hp))) hin rfl rfl rfl rfl rfl rfl (fun r0 o0 row0 cs0 m0 c0 g0 k0 => ?_)
    refine ⟨_, rfl, ?_⟩
    refine OS.read rfl (e_loadm m0 c0 rfl rfl (part_agg rfl rfl (k0 _ (things_cut ht)))) rfl ?_
    refine OS.fresh rfl (e_new (fun _ => rfl) rfl) (fun _ => rfl) (fun rt => ?_)
    refine OS.write rfl (e_store 0 rfl rfl rfl rfl rfl rfl rfl rfl) rfl ?_
    refine OS.nil ?_
    refine LS.seq ?_
    refine LS.mid [0, 1, 4, 5, 6, 7, 8, 9] (fun a L2 => L2 = (rt, .cells 28 (rw1 ts[i]).cells) :: L ∧ a = [l, .int .i64 c, .chan none, .chan none, .bool false, vb, ve, vr, .int .i64 (i : Nat), .pointer (some ⟨rt, 0, none⟩), .chan none, .chan none, .chan none, .chan none, .chan none, .chan none, .chan none, .chan none, .chan none, .chan none, .chan none, .chan none, .chan none, .chan none, .chan none, .chan none, .chan none, .chan none, .chan none, .chan none, .chan none, .chan none, .chan none, .chan none, .chan none, .chan none, .chan none, .chan none, .chan none, .chan none, .chan none, .chan none, .chan none, .chan none, .chan none, .chan none, .chan none, .chan none, .chan none, .chan none, .chan none, .chan none, .chan none, .chan none, .chan none, .chan none, .chan none, .chan none, .chan none, .chan none, .chan none, .chan none, .chan none, .chan none, .chan none, .chan none, .chan none, .chan none, .chan none, .chan none, .chan none, .chan none, .chan none, .chan none, .chan none, .chan none, .chan none, .chan none, .chan none, .chan none, .chan none, .chan none, .chan none, .chan none, .chan none, .chan none, .chan none, .chan none, .chan none, .chan none, .chan none, .chan none, .chan none, .chan none, .chan none, .chan none, .chan none, .chan none, .chan none, .chan none, .chan none, .chan none, .chan none, .chan none, .chan none, .chan none, .chan none, .chan none, .chan none, .chan none, .chan none, .chan none, .chan none, .chan none, .chan none, .chan none, .chan none, .chan none, .chan none, .chan none, .chan none, .chan none, .chan none, .chan none, .chan none, .chan none, .chan none, .chan none, .chan none, .chan none, .chan none, .chan none, .chan none, .chan none, .chan none, .chan none, .chan none, .chan none, .chan none, .chan none, .chan none]) ?_ ?_
    · generalize ts[i] = t
      obtain ⟨k, n, s⟩ := t
      by_cases hk : k = 1
      · subst hk
        repeat refine LS.seq ?_
        refine LS.region rfl ?_
        refine OS.pure rfl (fun _ => rfl) rfl ?_
        refine OS.read rfl (e_load 0 rfl rfl rfl rfl rfl) rfl ?_
        refine OS.pure rfl (fun _ => rfl) rfl ?_
        refine OS.nil ?_
        refine LS.cond rfl (fun hc => ?_) (fun hc => by cases hc)
        repeat refine LS.seq ?_
        refine LS.region rfl ?_
        refine OS.pure rfl (fun _ => rfl) rfl ?_
        refine OS.read rfl (e_load 0 rfl rfl rfl rfl rfl) rfl ?_
        refine OS.pure rfl (fun _ => rfl) rfl ?_
        refine OS.pure rfl (fun _ => rfl) rfl ?_
        refine OS.write rfl (e_store 0 rfl rfl rfl rfl rfl rfl rfl rfl) rfl ?_
        refine OS.nil ?_
        exact ⟨rfl, rfl⟩
      · have hb1 : ieqB (k.toNat : Int) 1 = false := by
          rw [ieqB_eq]
          have : k.toNat ≠ 1 := fun h => hk (UInt8.toNat_inj.1 h)
          simpa using (show ¬ (k.toNat : Int) = 1 by omega)
        repeat refine LS.seq ?_
        refine LS.region rfl ?_
        refine OS.pure rfl (fun _ => rfl) rfl ?_
        refine OS.read rfl (e_load 0 rfl rfl rfl rfl rfl) rfl ?_
        refine OS.pure rfl (e_is (fun _ => rfl) (congrArg Value.bool hb1)) rfl ?_
        refine OS.nil ?_
        refine LS.cond rfl (fun hc => by cases hc) (fun hc => ?_)
        refine LS.skip ?_
        exact ⟨by unfold rw1; rw [if_neg hk]; rfl, rfl⟩
    rintro a L2 ⟨rfl, rfl⟩
    have hTe : ∀ p, p ∈ T → p ∈ Le := hge.mem
    repeat refine LS.seq ?_
    refine LS.region rfl ?_
    refine OS.pure rfl (fun _ => rfl) rfl ?_
    refine OS.read rfl (e_load 0 rfl rfl rfl rfl rfl) rfl ?_
    refine OS.fresh rfl (e_new (fun _ => rfl) rfl) (fun _ => rfl) (fun rx => ?_)
    refine OS.fresh rfl (e_appendGV [_, _] (m := 1) (sz := 3) (bts := 32) hgr (SV.row (sz := 3) (n := 1) (List.mem_cons_self ..) rfl) (by omega) rfl rfl rfl rfl (by omega) (by omega)) (fun _ => rfl) (fun rR => ?_)
    refine OS.pure rfl (fun _ => rfl) rfl ?_
    refine OS.sub (Sub.drop 1 rfl) ?_
    refine OS.nil ?_
    repeat refine LS.seq ?_
    refine LS.region rfl ?_
    refine OS.read rfl (e_load 1 rfl rfl rfl rfl rfl) rfl ?_
    refine OS.pure rfl (fun _ => rfl) rfl ?_
    refine OS.call noGo rfl (fun _ => rfl) ((lay_ct (rw1 ts[i]) (rw1_ok hto) (by rw [rw1_s]; exact hts) (hvb.sv.mono fun p hp => List.mem_cons_of_mem _ (List.mem_cons_of_mem _ (hTe p hp))) (by omega)).mono ?_)
    rintro v L3 ⟨rb, rfl, rfl⟩
    refine ⟨_, rfl, ?_⟩
    refine OS.pure rfl (fun _ => rfl) rfl ?_
    refine OS.nil ?_
    repeat refine LS.seq ?_
    refine LS.region rfl ?_
    refine OS.pure rfl (fun _ => rfl) rfl ?_
    refine OS.pure rfl (fun _ => rfl) rfl ?_
    refine OS.pure rfl (fun _ => rfl) rfl ?_
    refine OS.fresh rfl (e_new (fun _ => rfl) rfl) (fun _ => rfl) (fun ry => ?_)
    refine OS.fresh rfl (e_appendGV [_, _, _, _] (m := 1) (sz := 1) (bts := 8) hge (SV.row (sz := 1) (n := 1) (List.mem_cons_self ..) rfl) (by omega) rfl rfl rfl rfl (by omega) (by omega)) (fun _ => rfl) (fun rE => ?_)
    refine OS.pure rfl (fun _ => rfl) rfl ?_
    refine OS.sub (Sub.drop 1 rfl) ?_
    refine OS.sub (Sub.drop 3 rfl) ?_
    refine OS.sub (Sub.pulls [2] rfl) ?_
    refine OS.nil ?_
    repeat refine LS.seq ?_
    refine LS.region rfl ?_
    refine OS.pure rfl (fun _ => rfl) rfl ?_
    refine OS.pure rfl (e_add rfl rfl rfl (in_i64 (by omega) (by omega))) rfl ?_
    refine OS.pure rfl (fun _ => rfl) rfl ?_
    refine OS.nil ?_
    have hbl : (B (i + 1)).length = (B i).length + (rw1 ts[i]).enc.length := by rw [hsucc, List.length_append]
    refine ⟨m - (i + 1), by omega, i + 1, (rb, .cells 5 (byteCells (B i ++ (rw1 ts[i]).enc))) :: T, (rE, .cells 3 (ends B (i + 1))) :: (rb, .cells 5 (byteCells (B i ++ (rw1 ts[i]).enc))) :: T, .slice (some ⟨rb, 0, none⟩) ((B i).length + (rw1 ts[i]).enc.length) openCap, .slice (some ⟨rE, 0, none⟩) (i + 1) openCap, .slice (some ⟨rR, 0, none⟩) (i + 1) openCap, rfl, by omega, fun p hp => List.mem_cons_of_mem _ (hT p hp), ?_, ?_, ?_, rfl⟩
    · exact .inr ⟨rb, 0, _, by rw [hbl], by rw [← hsucc]; exact List.mem_cons_self .., by rw [cut_all]; rw [byteCells_len]⟩
    · exact .inr ⟨rE, rfl, by rw [ends_len]; omega, rfl⟩
    · refine .inr ⟨rR, rfl, ?_, ?_⟩
      · rw [flat_len]; simp; omega
      · rw [take_snoc hu, List.flatMap_append, ends_succ, hbl]; rfl
  · have hc : (m : Int) ≤ i := nlt_of hc
    have hin : i = m := by omega
    subst hin
    refine LS.exit ?_
    rw [List.take_of_length_le (by omega)] at hgr
    have hTL : ∀ p, p ∈ T → p ∈ L := fun p hp => hgr.mem p (hge.mem p hp)
    obtain ⟨cz, hcz⟩ : ∃ cz : Nat, wrapB .u64 c = (cz : Int) := Int.eq_ofNat_of_zero_le (by rw [wrapB_eq, Am.wrap_u64]; omega)
    have hcz2 : cz < 18446744073709551616 := by
      have : (cz : Int) < 18446744073709551616 := by rw [← hcz, wrapB_eq, Am.wrap_u64]; omega
      omega
    obtain ⟨kk, hkk⟩ : ∃ kk, kk = cz % ((B i).length + 1) := ⟨_, rfl⟩
    have hkl : kk ≤ (B i).length := by rw [hkk]; have := Nat.mod_lt cz (show 0 < (B i).length + 1 by omega); omega
    repeat refine LS.seq ?_
    refine LS.region rfl ?_
    refine OS.pure rfl (fun _ => rfl) rfl ?_
    refine OS.pure rfl (e_is (fun _ => rfl) (congrArg (Value.int .u64) hcz)) rfl ?_
    refine OS.pure rfl (fun _ => rfl) rfl ?_
    refine OS.pure rfl (e_len hvb.sv rfl rfl rfl rfl rfl) rfl ?_
    refine OS.pure rfl (e_add rfl rfl rfl (in_i64 (by omega) (by omega))) rfl ?_
    refine OS.pure rfl (e_conv rfl rfl rfl rfl (in_u64 (by omega) (by omega))) rfl ?_
    refine OS.pure rfl (e_is (e_rem (m := cz) (n := (B i).length + 1) rfl rfl rfl (by omega)) (congrArg (fun x : Nat => Value.int .u64 (x : Int)) hkk.symm)) rfl ?_
    refine OS.pure rfl (e_conv rfl rfl rfl rfl (in_i64 (by omega) (by omega))) rfl ?_
    refine OS.pure rfl (fun _ => rfl) rfl ?_
    refine OS.nil ?_
    repeat refine LS.seq ?_
    refine LS.region rfl ?_
    refine OS.pure rfl (fun _ => rfl) rfl ?_
    refine OS.pure rfl (fun _ => rfl) rfl ?_
    refine OS.cutB (l := 0) (u := kk) (hvb.mono hTL) rfl rfl rfl rfl rfl rfl bound_nat rfl rfl hkl (by omega) (fun v' hv' => ?_)
    refine ⟨_, rfl, ?_⟩
    refine OS.call noGo rfl (fun _ => rfl) ((NewReader_ct hv'.sv (by simp; omega)).mono ?_)
    rintro v L3 ⟨r, rb, rfl, v0, rfl, hv0⟩
    simp only [List.drop_zero, Nat.sub_zero] at hv0 ⊢
    refine ⟨_, rfl, ?_⟩
    refine OS.pure rfl (fun _ => rfl) rfl ?_
    refine OS.nil ?_
    repeat refine LS.seq ?_
    refine LS.region rfl ?_
    refine OS.pure rfl (fun _ => rfl) rfl ?_
    refine OS.nil ?_
    generalize hM : ((rb, ARow.cells 5 (byteCells ((B i).take kk))) :: L : RL) = M at *
    have hLM : ∀ p, p ∈ L → p ∈ M := fun p hp => by rw [← hM]; exact List.mem_cons_of_mem _ hp
    have hrow : SV 3 M vr i (us.flatMap Th.cells) := hgr.sv.mono hLM
    have hends : SV 1 M ve i (ends B i) := hge.sv.mono fun p hp => hLM p (hgr.mem p hp)
    repeat refine LS.seq ?_
    refine LS.block ?_
    refine LS.loopJ [0, 4, 6, 7, 10, 11, 12] (fun q a L2 => ∃ j v, q = i - j ∧ j ≤ i ∧ (B j).length ≤ kk ∧ OV M v (((B i).take kk).drop (B j).length) ∧ L2 = (r, rdRowOf v false) :: M ∧
      a = [l, .chan none, .chan none, .chan none, .bool false, .chan none, ve, vr, .chan none, .chan none, .int .i64 (kk : Nat), .pointer (some ⟨r, 0, none⟩), .int .i64 (j : Nat), .chan none, .chan none, .chan none, .chan none, .chan none, .chan none, .chan none, .chan none, .chan none, .chan none, .chan none, .chan none, .chan none, .chan none, .chan none, .chan none, .chan none, .chan none, .chan none, .chan none, .chan none, .chan none, .chan none, .chan none, .chan none, .chan none, .chan none, .chan none, .chan none, .chan none, .chan none, .chan none, .chan none, .chan none, .chan none, .chan none, .chan none, .chan none, .chan none, .chan none, .chan none, .chan none, .chan none, .chan none, .chan none, .chan none, .chan none, .chan none, .chan none, .chan none, .chan none, .chan none, .chan none, .chan none, .chan none, .chan none, .chan none, .chan none, .chan none, .chan none, .chan none, .chan none, .chan none, .chan none, .chan none, .chan none, .chan none, .chan none, .chan none, .chan none, .chan none, .chan none, .chan none, .chan none, .chan none, .chan none, .chan none, .chan none, .chan none, .chan none, .chan none, .chan none, .chan none, .chan none, .chan none, .chan none, .chan none, .chan none, .chan none, .chan none, .chan none, .chan none, .chan none, .chan none, .chan none, .chan none, .chan none, .chan none, .chan none, .chan none, .chan none, .chan none, .chan none, .chan none, .chan none, .chan none, .chan none, .chan none, .chan none, .chan none, .chan none, .chan none, .chan none, .chan none, .chan none, .chan none, .chan none, .chan none, .chan none, .chan none, .chan none, .chan none, .chan none, .chan none, .chan none, .chan none, .chan none, .chan none]) (n := i) rfl ⟨0, v0, rfl, by omega, by rw [hB0]; simp, by rw [hB0]; exact hv0, rfl, rfl⟩ ?_
    rintro q a L2 ⟨j, v, rfl, hj, hjk, hv, rfl, rfl⟩
    repeat refine LS.seq ?_
    refine LS.region rfl ?_
    refine OS.pure rfl (fun _ => rfl) rfl ?_
    refine OS.pure rfl (fun _ => rfl) rfl ?_
    refine OS.pure rfl (e_len hrow rfl rfl rfl rfl rfl) rfl ?_
    refine OS.pure rfl (fun _ => rfl) rfl ?_
    refine OS.nil ?_
    repeat refine LS.seq ?_
    refine LS.cond rfl (fun hc => ?_) (fun hc => ?_)
    · have hc : (j : Int) < i := lt_of hc
      have hjn : j < i := by omega
      have hu : us[j]? = some us[j] := List.getElem?_eq_getElem (by omega)
      have huo := huok us[j] (List.getElem_mem (by omega))
      have hmay : us[j].mayBe := by simp only [us, List.getElem_map]; exact rw1_may _
      have hul : us[j].s.data.toList.length ≤ 200000 := by have := weigh_mem (List.getElem_mem (l := us) (n := j) (by omega)); omega
      have hsucc : B (j + 1) = B j ++ us[j].enc := laidAt_succ hu
      obtain ⟨R, hR⟩ : B (j + 1) <+: B i := laid_prefix (by omega)
      generalize us[j] = t at *
      refine LS.skip ?_
      repeat refine LS.seq ?_
      refine LS.block ?_
      repeat refine LS.seq ?_
      refine LS.region rfl ?_
      refine OS.pure rfl (fun _ => rfl) rfl ?_
      refine OS.pure rfl (fun _ => rfl) rfl ?_
      refine OS.at (j := j) hrow.cons hjn rfl rfl rfl rfl rfl rfl (fun r0 o0 row0 cs0 m0 c0 g0 k0 => ?_)
      refine ⟨_, rfl, ?_⟩
      refine OS.read rfl (e_loadm m0 c0 rfl rfl (part_agg rfl rfl (k0 _ (things_cut hu)))) rfl ?_
      refine OS.fresh rfl (e_new (fun _ => rfl) rfl) (fun _ => rfl) (fun rt => ?_)
      refine OS.write rfl (e_store 0 rfl rfl rfl rfl rfl rfl rfl rfl) rfl ?_
      refine OS.nil ?_
      repeat refine LS.seq ?_
      refine LS.region rfl ?_
      refine OS.pure rfl (fun _ => rfl) rfl ?_
      refine OS.read rfl (e_load 0 rfl rfl rfl rfl rfl) rfl ?_
      refine OS.pure rfl (fun _ => rfl) rfl ?_
      refine OS.fresh rfl (e_new (fun _ => rfl) rfl) (fun _ => rfl) (fun rw => ?_)
      refine OS.write rfl (e_store 0 rfl rfl rfl rfl rfl rfl rfl rfl) rfl ?_
      refine OS.nil ?_
      refine LS.seq ?_
      refine LS.mid [0, 4, 6, 7, 10, 11, 12, 13, 14] (fun a L3 => L3 = (rw, .cells 36 [.int .i64 t.want.1, .string ⟨⟨t.want.2⟩⟩]) :: (rt, .cells 28 t.asking.cells) :: (r, rdRowOf v false) :: M ∧
        a = [l, .chan none, .chan none, .chan none, .bool false, .chan none, ve, vr, .chan none, .chan none, .int .i64 (kk : Nat), .pointer (some ⟨r, 0, none⟩), .int .i64 (j : Nat), .pointer (some ⟨rt, 0, none⟩), .pointer (some ⟨rw, 0, none⟩), .chan none, .chan none, .chan none, .chan none, .chan none, .chan none, .chan none, .chan none, .chan none, .chan none, .chan none, .chan none, .chan none, .chan none, .chan none, .chan none, .chan none, .chan none, .chan none, .chan none, .chan none, .chan none, .chan none, .chan none, .chan none, .chan none, .chan none, .chan none, .chan none, .chan none, .chan none, .chan none, .chan none, .chan none, .chan none, .chan none, .chan none, .chan none, .chan none, .chan none, .chan none, .chan none, .chan none, .chan none, .chan none, .chan none, .chan none, .chan none, .chan none, .chan none, .chan none, .chan none, .chan none, .chan none, .chan none, .chan none, .chan none, .chan none, .chan none, .chan none, .chan none, .chan none, .chan none, .chan none, .chan none, .chan none, .chan none, .chan none, .chan none, .chan none, .chan none, .chan none, .chan none, .chan none, .chan none, .chan none, .chan none, .chan none, .chan none, .chan none, .chan none, .chan none, .chan none, .chan none, .chan none, .chan none, .chan none, .chan none, .chan none, .chan none, .chan none, .chan none, .chan none, .chan none, .chan none, .chan none, .chan none, .chan none, .chan none, .chan none, .chan none, .chan none, .chan none, .chan none, .chan none, .chan none, .chan none, .chan none, .chan none, .chan none, .chan none, .chan none, .chan none, .chan none, .chan none, .chan none, .chan none, .chan none, .chan none, .chan none, .chan none, .chan none, .chan none, .chan none, .chan none, .chan none]) ?_ ?_
      · clear hsucc hR huo hmay hul hu
        obtain ⟨k, n, s⟩ := t
        have hne : ∀ j : Nat, j < 256 → k ≠ UInt8.ofNat j → ieqB (k.toNat : Int) j = false := fun j hj hne => by
          rw [ieqB_eq]
          have : k.toNat ≠ j := fun hh => hne (by rw [← hh]; simp)
          simpa using (show ¬ ((k.toNat : Int) = j) by omega)
        repeat refine LS.seq ?_
        refine LS.block ?_
        by_cases hk : k = 2
        · subst hk
          repeat refine LS.seq ?_
          refine LS.region rfl ?_
          refine OS.pure rfl (fun _ => rfl) rfl ?_
          refine OS.read rfl (e_load 1 rfl rfl rfl rfl rfl) rfl ?_
          refine OS.pure rfl (fun _ => rfl) rfl ?_
          refine OS.pure rfl (fun _ => rfl) rfl ?_
          refine OS.nil ?_
          refine LS.cond rfl (fun hc => ?_) (fun hc => by cases hc)
          repeat refine LS.seq ?_
          refine LS.region rfl ?_
          refine OS.pure rfl (fun _ => rfl) rfl ?_
          refine OS.read rfl (e_load 1 rfl rfl rfl rfl rfl) rfl ?_
          refine OS.pure rfl (fun _ => rfl) rfl ?_
          refine OS.write rfl (e_store 0 rfl rfl rfl rfl rfl rfl rfl rfl) rfl ?_
          refine OS.nil ?_
          repeat refine LS.seq ?_
          refine LS.region rfl ?_
          refine OS.pure rfl (fun _ => rfl) rfl ?_
          refine OS.read rfl (e_load 1 rfl rfl rfl rfl rfl) rfl ?_
          refine OS.pure rfl (fun _ => rfl) rfl ?_
          refine OS.pure rfl (fun _ => rfl) rfl ?_
          refine OS.write rfl (e_store 1 rfl rfl rfl rfl rfl rfl rfl rfl) rfl ?_
          refine OS.nil ?_
          exact ⟨rfl, rfl⟩
        · repeat refine LS.seq ?_
          refine LS.region rfl ?_
          refine OS.pure rfl (fun _ => rfl) rfl ?_
          refine OS.read rfl (e_load 1 rfl rfl rfl rfl rfl) rfl ?_
          refine OS.pure rfl (e_is (fun _ => rfl) (congrArg Value.bool (hne 2 (by omega) hk))) rfl ?_
          refine OS.pure rfl (fun _ => rfl) rfl ?_
          refine OS.nil ?_
          refine LS.cond rfl (fun hc => by cases hc) (fun hc => ?_)
          have ha : Th.asking ⟨k, n, s⟩ = ⟨k, n, s⟩ := if_neg hk
          by_cases hb : 2 < k.toNat
          · have hb1 : (!ileB (k.toNat : Int) 2) = true := by rw [ileB_eq]; simp; omega
            have hw1 : Th.want ⟨k, n, s⟩ = (if n.tmod 2 ≠ 0 then 1 else 0, []) := by unfold Th.want; rw [if_neg hk, if_pos hb]
            repeat refine LS.seq ?_
            refine LS.region rfl ?_
            refine OS.pure rfl (fun _ => rfl) rfl ?_
            refine OS.read rfl (e_load 1 rfl rfl rfl rfl rfl) rfl ?_
            refine OS.pure rfl (e_is (fun _ => rfl) (congrArg Value.bool hb1)) rfl ?_
            refine OS.pure rfl (fun _ => rfl) rfl ?_
            refine OS.nil ?_
            refine LS.cond rfl (fun hc => ?_) (fun hc => by cases hc)
            repeat refine LS.seq ?_
            refine LS.region rfl ?_
            refine OS.pure rfl (fun _ => rfl) rfl ?_
            refine OS.read rfl (e_load 1 rfl rfl rfl rfl rfl) rfl ?_
            refine OS.pure rfl (fun _ => rfl) rfl ?_
            refine OS.pure rfl (fun _ => rfl) rfl ?_
            refine OS.call noGo rfl (fun _ => rfl) ((one_ct _).mono ?_)
            rintro v' L3 ⟨rfl, rfl⟩
            refine ⟨_, rfl, ?_⟩
            refine OS.pure rfl (fun _ => rfl) rfl ?_
            refine OS.write rfl (e_store 0 rfl rfl rfl rfl rfl rfl rfl rfl) rfl ?_
            refine OS.nil ?_
            refine ⟨?_, rfl⟩
            rw [hw1, ha]
            have : (if (!ieqB (n.tmod 2) 0) = true then (1 : Int) else 0) = (if n.tmod 2 ≠ 0 then 1 else 0) := by rw [ieqB_eq]; simp
            rw [← this]
            rfl
          · have hb1 : (!ileB (k.toNat : Int) 2) = false := by rw [ileB_eq]; simp; omega
            have hw1 : Th.want ⟨k, n, s⟩ = (n, []) := by unfold Th.want; rw [if_neg hk, if_neg hb]
            repeat refine LS.seq ?_
            refine LS.region rfl ?_
            refine OS.pure rfl (fun _ => rfl) rfl ?_
            refine OS.read rfl (e_load 1 rfl rfl rfl rfl rfl) rfl ?_
            refine OS.pure rfl (e_is (fun _ => rfl) (congrArg Value.bool hb1)) rfl ?_
            refine OS.pure rfl (fun _ => rfl) rfl ?_
            refine OS.nil ?_
            refine LS.cond rfl (fun hc => by cases hc) (fun hc => ?_)
            refine LS.skip ?_
            refine ⟨?_, rfl⟩
            rw [hw1, ha]
            rfl
      rintro a L3 ⟨rfl, rfl⟩
      have hao : t.asking.ok := by
        unfold Th.asking
        split
        · exact ⟨by simp only; omega, by simp only; omega, huo.2.2⟩
        · exact huo
      have hvl : (((B i).take kk).drop (B j).length).length ≤ 9223372036854775807 := by simp; omega
      have hul2 := hB (j + 1)
      have hsl : (B (j + 1)).length = (B j).length + t.enc.length := by rw [hsucc, List.length_append]
      have hBi : (B i).length = (B (j + 1)).length + R.length := by rw [← hR, List.length_append]
      have hBk := hB i
      have hfull : ((B i).take kk).drop (B j).length = (t.enc ++ R).take (kk - (B j).length) := by rw [← hR, hsucc, List.append_assoc, List.drop_take, List.drop_left]
      by_cases hcut : (B (j + 1)).length ≤ kk
      · -- the thing is whole
        have hrest : ((B i).take kk).drop (B j).length = t.enc ++ ((B i).take kk).drop (B (j + 1)).length := by
          have h2 : ((B i).take kk).drop (B (j + 1)).length = R.take (kk - (B (j + 1)).length) := by rw [← hR, List.drop_take, List.drop_left]
          rw [hfull, h2, List.take_append, List.take_of_length_le (by omega)]
          congr 2; omega
        have hask := askS_whole t huo hmay hul (((B i).take kk).drop (B (j + 1)).length)
        repeat refine LS.seq ?_
        refine LS.region rfl ?_
        refine OS.read rfl (e_load 1 rfl rfl rfl rfl rfl) rfl ?_
        refine OS.pure rfl (fun _ => rfl) rfl ?_
        refine OS.sub (Sub.pulls [2] rfl) ?_
        refine OS.call noGo rfl (fun _ => rfl) ((ask_ct t.asking hao hv.cons.cons hvl).mono ?_)
        rintro v' L3 ⟨hv', v2, hL3, hv2⟩
        rw [hrest, hask] at hv' hL3 hv2
        subst hv'
        subst hL3
        simp only at hv2
        have hv3 : OV M v2 (((B i).take kk).drop (B (j + 1)).length) := (hv2.uncons (by decide)).uncons (by decide)
        refine ⟨_, rfl, ?_⟩
        refine OS.fresh rfl (e_new (fun _ => rfl) rfl) (fun _ => rfl) (fun rx => ?_)
        refine OS.write rfl (e_store 0 rfl rfl rfl rfl rfl rfl rfl rfl) rfl ?_
        refine OS.nil ?_
        have hb1 : (!ileB ((B (j + 1)).length : Int) (kk : Int)) = false := by rw [ileB_eq]; simp; omega
        repeat refine LS.seq ?_
        refine LS.region rfl ?_
        refine OS.pure rfl (fun _ => rfl) rfl ?_
        refine OS.pure rfl (fun _ => rfl) rfl ?_
        refine OS.at1 (j := j) hends.cons.cons.cons.cons (ends_get hjn) rfl rfl rfl rfl rfl rfl (fun r0 o0 row0 cs0 m0 c0 g0 => ?_)
        refine ⟨_, rfl, ?_⟩
        refine OS.read rfl (e_loadm m0 c0 rfl rfl (part_one rfl g0)) rfl ?_
        refine OS.pure rfl (fun _ => rfl) rfl ?_
        refine OS.pure rfl (e_is (fun _ => rfl) (congrArg Value.bool hb1)) rfl ?_
        refine OS.nil ?_
        refine LS.cond rfl (fun hc => by cases hc) (fun hc => ?_)
        refine LS.skip ?_
        repeat refine LS.seq ?_
        refine LS.drawn noGo mixed [(0, false), (1, false), (2, false), (3, false), (4, false), (5, true), (6, false), (7, false), (8, false), (9, false), (11, false), (12, false), (13, false), (14, false), (15, false), (16, false), (10, true), (17, false), (18, false)] rfl rfl (by kernel_rfl) ?_
        refine ODS.read rfl rfl (e_load 0 rfl rfl rfl rfl rfl) rfl ?_
        refine ODS.read rfl rfl (e_load 2 rfl rfl rfl rfl rfl) rfl ?_
        refine ODS.pure rfl rfl (e_is (e_neTold (p := t.want) (q := t.want) rfl rfl rfl) (congrArg Value.bool (show (!decide (t.want = t.want)) = false by simp))) rfl ?_
        refine ODS.pure rfl rfl (fun _ => rfl) rfl ?_
        refine ODS.pure rfl rfl (fun _ => rfl) rfl ?_
        refine ODS.call rfl rfl (fun _ => rfl) ((CS.sub (Sub.pulls [1] rfl) OK_ct).mono ?_)
        rintro v' L3 ⟨rfl, rfl⟩
        refine ⟨_, rfl, Keep.gone rfl (Keep.gone rfl Keep.nil), ?_⟩
        refine ODS.pure rfl rfl (fun _ => rfl) rfl ?_
        refine ODS.pure rfl rfl (fun _ => rfl) rfl ?_
        refine ODS.pure rfl rfl (fun _ => rfl) rfl ?_
        refine ODS.pure rfl rfl (fun _ => rfl) rfl ?_
        refine ODS.pure rfl rfl (fun _ => rfl) rfl ?_
        refine ODS.pure rfl rfl (fun _ => rfl) rfl ?_
        refine ODS.pure rfl rfl (fun _ => rfl) rfl ?_
        refine ODS.at1 (j := j) hends.cons.cons.cons.cons (ends_get hjn) rfl rfl rfl rfl rfl rfl rfl (fun r0 o0 row0 cs0 m0 c0 g0 => ?_)
        refine ⟨_, rfl, ?_⟩
        refine ODS.read rfl rfl (e_loadm m0 c0 rfl rfl (part_one rfl g0)) rfl ?_
        refine ODS.pure rfl rfl (e_sub (m := (kk : Nat)) (n := ((B (j + 1)).length : Nat)) rfl rfl rfl (in_i64 (by omega) (by omega))) rfl ?_
        refine ODS.call rfl rfl (fun _ => rfl) ((Left_ct hv3.cons.cons.cons).mono ?_)
        rintro v' L3 ⟨rfl, rfl⟩
        refine ⟨_, rfl, Keep.cons rfl (e_loadm m0 c0 rfl rfl (part_one rfl g0)) (Keep.gone rfl (Keep.gone rfl Keep.nil)), ?_⟩
        have hb2 : (!ieqB ((((B i).take kk).drop (B (j + 1)).length).length : Nat) ((kk : Int) - ((B (j + 1)).length : Nat))) = false := by rw [ieqB_eq]; simp; omega
        refine ODS.pure rfl rfl (e_is (fun _ => rfl) (congrArg Value.bool hb2)) rfl ?_
        refine ODS.pure rfl rfl (fun _ => rfl) rfl ?_
        refine ODS.nil ?_
        refine LS.cond rfl (fun hc => by cases hc) (fun hc => ?_)
        refine LS.skip ?_
        repeat refine LS.seq ?_
        refine LS.region rfl ?_
        refine OS.pure rfl (fun _ => rfl) rfl ?_
        refine OS.pure rfl (e_add rfl rfl rfl (in_i64 (by omega) (by omega))) rfl ?_
        refine OS.pure rfl (fun _ => rfl) rfl ?_
        refine OS.sub (Sub.drop 1 rfl) ?_
        refine OS.sub (Sub.drop 1 rfl) ?_
        refine OS.sub (Sub.drop 1 rfl) ?_
        refine OS.nil ?_
        exact ⟨i - (j + 1), by omega, j + 1, v2, rfl, by omega, hcut, hv3, rfl, rfl⟩
      · -- it is cut
        have hrest : ((B i).take kk).drop (B j).length = t.enc.take (kk - (B j).length) := by rw [hfull, List.take_append_of_le_length (by omega)]
        have hask := askS_cut t huo hmay hul (p := ((B i).take kk).drop (B j).length) (by rw [hrest]; exact List.take_prefix _ _) (by rw [hrest, List.length_take]; omega)
        repeat refine LS.seq ?_
        refine LS.region rfl ?_
        refine OS.read rfl (e_load 1 rfl rfl rfl rfl rfl) rfl ?_
        refine OS.pure rfl (fun _ => rfl) rfl ?_
        refine OS.sub (Sub.pulls [2] rfl) ?_
        refine OS.call noGo rfl (fun _ => rfl) ((ask_ct t.asking hao hv.cons.cons hvl).mono ?_)
        rintro v' L3 ⟨hv', v2, hL3, hv2⟩
        rw [hask] at hv' hL3 hv2
        subst hv'
        subst hL3
        simp only at hv2
        refine ⟨_, rfl, ?_⟩
        refine OS.fresh rfl (e_new (fun _ => rfl) rfl) (fun _ => rfl) (fun rx => ?_)
        refine OS.write rfl (e_store 0 rfl rfl rfl rfl rfl rfl rfl rfl) rfl ?_
        refine OS.nil ?_
        have hb1 : (!ileB ((B (j + 1)).length : Int) (kk : Int)) = true := by rw [ileB_eq]; simp; omega
        repeat refine LS.seq ?_
        refine LS.region rfl ?_
        refine OS.pure rfl (fun _ => rfl) rfl ?_
        refine OS.pure rfl (fun _ => rfl) rfl ?_
        refine OS.at1 (j := j) hends.cons.cons.cons.cons (ends_get hjn) rfl rfl rfl rfl rfl rfl (fun r0 o0 row0 cs0 m0 c0 g0 => ?_)
        refine ⟨_, rfl, ?_⟩
        refine OS.read rfl (e_loadm m0 c0 rfl rfl (part_one rfl g0)) rfl ?_
        refine OS.pure rfl (fun _ => rfl) rfl ?_
        refine OS.pure rfl (e_is (fun _ => rfl) (congrArg Value.bool hb1)) rfl ?_
        refine OS.nil ?_
        refine LS.cond rfl (fun hc => ?_) (fun hc => by cases hc)
        repeat refine LS.seq ?_
        refine LS.region rfl ?_
        refine OS.read rfl (e_load 0 rfl rfl rfl rfl rfl) rfl ?_
        refine OS.pure rfl (fun _ => rfl) rfl ?_
        refine OS.pure rfl (e_is (e_eqTold (p := (0, [])) (q := (0, [])) rfl rfl rfl) (congrArg Value.bool (show decide (((0 : Int), ([] : List UInt8)) = (0, [])) = true by simp))) rfl ?_
        refine OS.pure rfl (fun _ => rfl) rfl ?_
        refine OS.pure rfl (fun _ => rfl) rfl ?_
        refine OS.sub (Sub.pulls [1] rfl) ?_
        refine OS.call noGo rfl (fun _ => rfl) ((OK_ct).mono ?_)
        rintro v' L3 ⟨rfl, rfl⟩
        refine ⟨_, rfl, ?_⟩
        refine OS.pure rfl (fun _ => rfl) rfl ?_
        refine OS.pure rfl (fun _ => rfl) rfl ?_
        refine OS.pure rfl (fun _ => rfl) rfl ?_
        refine OS.pure rfl (fun _ => rfl) rfl ?_
        refine OS.call noGo rfl (fun _ => rfl) ((Done_ct hv2.cons).mono ?_)
        rintro v' L3 ⟨rfl, rfl⟩
        refine ⟨_, rfl, ?_⟩
        refine OS.pure rfl (fun _ => rfl) rfl ?_
        refine OS.pure rfl (fun _ => rfl) rfl ?_
        refine OS.pure rfl (fun _ => rfl) rfl ?_
        refine OS.nil ?_
        refine LS.ret ⟨_, fun _ _ => rfl, ?_⟩
        rfl
    · have hc : (i : Int) ≤ j := nlt_of hc
      have hje : j = i := by omega
      subst hje
      refine LS.exit ?_
      have hrest : ((B j).take kk).drop (B j).length = [] := List.drop_eq_nil_of_le (by simp; omega)
      rw [hrest] at hv
      repeat refine LS.seq ?_
      refine LS.region rfl ?_
      refine OS.pure rfl (fun _ => rfl) rfl ?_
      refine OS.call noGo rfl (fun _ => rfl) ((Done_ct hv).mono ?_)
      rintro v' L3 ⟨rfl, rfl⟩
      refine ⟨_, rfl, ?_⟩
      refine OS.pure rfl (fun _ => rfl) rfl ?_
      refine OS.nil ?_
      refine LS.ret ⟨_, fun _ _ => rfl, ?_⟩
      rfl
end Go.Proofs.Ytnfenpkkhkdkhaa
