/- Layer 5: Load. -/
import Derived.Test.YtlifdkihjnnonaaFe
namespace Go.Proofs.Ytlifdkihjnnonaa
open Go.Am
set_option linter.unusedVariables false
set_option maxRecDepth 20000

/-- Bytes in a list that may be cut. -/
def BV (L : RL) (v : Value) (bs : List UInt8) : Prop := OV L v bs ∨ (SV 1 L v bs.length (byteCells bs) ∧ ∀ r off cap, v = .slice (some ⟨r, off, none⟩) bs.length cap → cap < openCap ∧ bs.length ≤ cap)
theorem BV.sv {L : RL} {v : Value} {bs : List UInt8} (h : BV L v bs) : SV 1 L v bs.length (byteCells bs) := by
  rcases h with h | h
  · exact h.sv
  · exact h.1
theorem BV.mono {L L' : RL} {v : Value} {bs : List UInt8} (h : BV L v bs) (hm : ∀ p, p ∈ L → p ∈ L') : BV L' v bs := by
  rcases h with h | h
  · exact .inl (h.mono hm)
  · exact .inr ⟨h.1.mono hm, h.2⟩
theorem BV.cons {L : RL} {x : Nat × ARow} {v : Value} {bs : List UInt8} (h : BV L v bs) : BV (x :: L) v bs := h.mono fun _ hp => List.mem_cons_of_mem _ hp
theorem OS.cutX {P : Program} {ops rest : List Oper} {o : Oper} {a : Slots} {L : RL} {K : Slots → RL → Prop} {t : TypeId} {x : Operand} {lo hi : Option Operand} {lo' hi' : Option Value} {v : Value} {l u : Nat} {bs : List UInt8} (hs : BV L v bs) (hw : wantedB ops o a = true) (ho : o.op = .slice t x lo hi none) (hx : aev a x = some v)
    (hlo : optEv a lo = some lo') (hhi : optEv a hi = some hi') (bl : boundB lo' 0 = some l) (bu : boundB hi' bs.length = some u) (ht : P.underlying t = some (.slice 5)) (hz : sizeB P 5 = some 1) (hu : u ≤ bs.length) (hl : l ≤ u)
    (hk : ∀ v', SV 1 L v' (u - l) (byteCells ((bs.drop l).take (u - l))) → ∃ a₁, putAt a o.dst v' = some a₁ ∧ OS P ops rest a₁ L K) : OS P ops (o :: rest) a L K := by
  rcases hs with hs | ⟨hs, hcap⟩
  · refine OS.cutB hs hw ho hx hlo hhi bl bu ht hz hu hl fun v' hv' => hk v' ?_
    have hlen : ((bs.drop l).take (u - l)).length = u - l := by simp; omega
    have := hv'.sv
    rw [hlen] at this; exact this
  · obtain ⟨v', h1, h2⟩ := e_sliceSV hs (fun r off cap row cs₀ h _ _ => .inl (hcap r off cap h)) ho hx hlo hhi bl bu ht hz hu hl
    simp only [Nat.mul_one] at h1
    have h1' : SV 1 L v' (u - l) (byteCells ((bs.drop l).take (u - l))) := by
      have e : byteCells ((bs.drop l).take (u - l)) = ((byteCells bs).drop l).take (u - l) := by simp [byteCells, List.map_take, List.map_drop]
      rw [e]; exact h1
    obtain ⟨a₁, ep, k⟩ := hk v' h1'
    exact OS.read hw h2 ep k

/-- Rows of marks that may be wrong. -/
abbrev fw (rm rb n : Nat) (D : List UInt8) (F : RL) : RL := (rm, .cells 57 [.int .i64 (n : Nat), .slice (some ⟨rb, 0, none⟩) D.length D.length]) :: (rb, .cells 5 (byteCells D)) :: F
/-- Is a bit set for which there is no block? -/
def past (n : Nat) (D : List UInt8) : Bool := decide (0 < n % 8) && decide (0 < (D[n / 8]?.getD 0).toNat / 2 ^ (n % 8))
theorem past_none {n : Nat} {D : List UInt8} (hD : D.length = (n + 7) / 8) (h : past n D = false) (i : Nat) (hi : n ≤ i) : bit D i = false := by
  by_cases hb : i / 8 < D.length
  · have h8 : 0 < n % 8 := by omega
    have hii : i / 8 = n / 8 := by omega
    unfold past at h
    rw [decide_eq_true h8, Bool.true_and] at h
    have h := of_decide_eq_false h
    unfold bit tb
    rw [hii]
    refine Nat.testBit_lt_two_pow ?_
    have h0 : (D[n / 8]?.getD 0).toNat / 2 ^ (n % 8) = 0 := Nat.eq_zero_of_not_pos h
    have h1 : (D[n / 8]?.getD 0).toNat < 2 ^ (n % 8) := by
      rcases Nat.div_eq_zero_iff.1 h0 with h | h
      · exact absurd h (by have := Nat.two_pow_pos (n % 8); omega)
      · exact h
    exact Nat.lt_of_lt_of_le h1 (Nat.pow_le_pow_right (by omega) (by omega))
  · exact bit_out (by omega)
theorem past_some {n : Nat} {D : List UInt8} (hall : ∀ i, n ≤ i → bit D i = false) : past n D = false := by
  unfold past
  by_cases h8 : 0 < n % 8
  · rw [decide_eq_true h8, Bool.true_and, decide_eq_false]
    have : (D[n / 8]?.getD 0).toNat < 2 ^ (n % 8) := by
      refine Nat.lt_pow_two_of_testBit _ fun k hk => ?_
      by_cases h : k < 8
      · have := hall (8 * (n / 8) + k) (by omega)
        rw [bit_at _ _ _ h] at this
        exact this
      · have := tb_big (c := D[n / 8]?.getD 0) (k := k) (by omega)
        exact this
    rw [Nat.div_eq_of_lt this]; decide
  · rw [decide_eq_false h8]; rfl
theorem past_ct {F : RL} {rm rb n : Nat} {D : List UInt8} (hn : n ≤ 32768) (hD : D.length = (n + 7) / 8) : CS Try.prog 40 [ptr rm] (fw rm rb n D F) fun v L' => v = .bool (past n D) ∧ L' = fw rm rb n D F := by
  refine CS.mk (fn := Try.f40) rfl rfl rfl rfl ?_
  repeat refine LS.seq ?_
  refine LS.region rfl ?_
  refine OS.pure rfl (fun _ => rfl) rfl ?_
  refine OS.nil ?_
  by_cases h8 : 0 < n % 8
  · have hb : (!ileB ((n % 8 : Nat) : Int) 0) = true := by rw [ileB_eq]; simp; omega
    have hj : n / 8 < D.length := by omega
    have hval : (!ileB ((D[n / 8].toNat / 2 ^ (n % 8) : Nat) : Int) 0) = past n D := by
      unfold past
      rw [ileB_eq, decide_eq_true h8, Bool.true_and, List.getElem?_eq_getElem hj, Option.getD_some]
      generalize D[n / 8].toNat / 2 ^ (n % 8) = q
      rw [Bool.eq_iff_iff]
      simp only [Bool.not_eq_true', decide_eq_false_iff_not, decide_eq_true_eq]
      omega
    repeat refine LS.seq ?_
    refine LS.drawn noGo mixed [(0, false), (1, false), (2, false), (3, false), (4, false), (5, false), (6, false), (7, false), (8, false), (9, false), (10, false), (11, false), (12, false), (13, false), (14, false), (15, false), (16, false), (17, false), (18, false), (19, false), (20, false), (21, false), (22, false), (23, false), (24, false), (25, false), (26, false)] rfl rfl (by kernel_rfl) ?_
    refine ODS.pure rfl rfl (fun _ => rfl) rfl ?_
    refine ODS.pure rfl rfl (fun _ => rfl) rfl ?_
    refine ODS.pure rfl rfl (fun _ => rfl) rfl ?_
    refine ODS.read rfl rfl (e_load 0 rfl rfl rfl rfl rfl) rfl ?_
    refine ODS.pure rfl rfl (e_rem (m := n) (n := 8) rfl rfl rfl (by decide)) rfl ?_
    refine ODS.pure rfl rfl (e_is (fun _ => rfl) (congrArg Value.bool hb)) rfl ?_
    refine ODS.pure rfl rfl (fun _ => rfl) rfl ?_
    refine ODS.pure rfl rfl (fun _ => rfl) rfl ?_
    refine ODS.pure rfl rfl (fun _ => rfl) rfl ?_
    refine ODS.pure rfl rfl (fun _ => rfl) rfl ?_
    refine ODS.read rfl rfl (e_load 0 rfl rfl rfl rfl rfl) rfl ?_
    refine ODS.pure rfl rfl (fun _ => rfl) rfl ?_
    refine ODS.pure rfl rfl (fun _ => rfl) rfl ?_
    refine ODS.pure rfl rfl (fun _ => rfl) rfl ?_
    refine ODS.read rfl rfl (e_load 0 rfl rfl rfl rfl rfl) rfl ?_
    refine ODS.pure rfl rfl (e_quo (m := n) (n := 8) rfl rfl rfl (by decide) (in_i64 (by omega) (by omega))) rfl ?_
    refine ODS.pure rfl rfl (e_index (j := n / 8) (sz := 1) rfl rfl rfl rfl rfl hj) rfl ?_
    refine ODS.read rfl rfl (e_load 1 rfl rfl rfl rfl (part_one rfl (cell_at hj))) rfl ?_
    refine ODS.pure rfl rfl (fun _ => rfl) rfl ?_
    refine ODS.pure rfl rfl (fun _ => rfl) rfl ?_
    refine ODS.pure rfl rfl (fun _ => rfl) rfl ?_
    refine ODS.read rfl rfl (e_load 0 rfl rfl rfl rfl rfl) rfl ?_
    refine ODS.pure rfl rfl (e_rem (m := n) (n := 8) rfl rfl rfl (by decide)) rfl ?_
    refine ODS.pure rfl rfl (e_shr (k := .u8) (s := n % 8) rfl rfl rfl (by have : IntKind.u8.bits = 8 := rfl; omega)) rfl ?_
    refine ODS.pure rfl rfl (e_is (fun _ => rfl) (congrArg Value.bool hval)) rfl ?_
    refine ODS.pure rfl rfl (fun _ => rfl) rfl ?_
    refine ODS.pure rfl rfl (fun _ => rfl) rfl ?_
    refine ODS.nil ?_
    refine LS.ret ⟨_, fun _ _ => rfl, ?_⟩
    exact ⟨rfl, rfl⟩
  · have hb : (!ileB ((n % 8 : Nat) : Int) 0) = false := by rw [ileB_eq]; simp; omega
    repeat refine LS.seq ?_
    refine LS.drawn noGo mixed [(0, false), (1, false), (2, false), (3, false), (4, false), (5, false), (6, false), (7, false), (8, false), (9, false), (10, false), (11, false), (12, false), (13, false), (14, false), (15, false), (16, false), (17, false), (18, false), (19, false), (20, false), (21, false), (22, false), (23, false), (24, false), (25, false), (26, false)] rfl rfl (by kernel_rfl) ?_
    refine ODS.pure rfl rfl (fun _ => rfl) rfl ?_
    refine ODS.pure rfl rfl (fun _ => rfl) rfl ?_
    refine ODS.pure rfl rfl (fun _ => rfl) rfl ?_
    refine ODS.read rfl rfl (e_load 0 rfl rfl rfl rfl rfl) rfl ?_
    refine ODS.pure rfl rfl (e_rem (m := n) (n := 8) rfl rfl rfl (by decide)) rfl ?_
    refine ODS.pure rfl rfl (e_is (fun _ => rfl) (congrArg Value.bool hb)) rfl ?_
    refine ODS.pure rfl rfl (fun _ => rfl) rfl ?_
    refine ODS.skip rfl rfl rfl ?_
    refine ODS.skip rfl rfl rfl ?_
    refine ODS.skip rfl rfl rfl ?_
    refine ODS.skip rfl rfl rfl ?_
    refine ODS.skip rfl rfl rfl ?_
    refine ODS.skip rfl rfl rfl ?_
    refine ODS.skip rfl rfl rfl ?_
    refine ODS.skip rfl rfl rfl ?_
    refine ODS.skip rfl rfl rfl ?_
    refine ODS.skip rfl rfl rfl ?_
    refine ODS.skip rfl rfl rfl ?_
    refine ODS.skip rfl rfl rfl ?_
    refine ODS.skip rfl rfl rfl ?_
    refine ODS.skip rfl rfl rfl ?_
    refine ODS.skip rfl rfl rfl ?_
    refine ODS.skip rfl rfl rfl ?_
    refine ODS.skip rfl rfl rfl ?_
    refine ODS.skip rfl rfl rfl ?_
    refine ODS.pure rfl rfl (fun _ => rfl) rfl ?_
    refine ODS.pure rfl rfl (fun _ => rfl) rfl ?_
    refine ODS.nil ?_
    refine LS.ret ⟨_, fun _ _ => rfl, ?_⟩
    refine ⟨?_, rfl⟩
    unfold past
    rw [decide_eq_false h8]
    rfl

/-- What is loaded. -/
def isMap (bs : List UInt8) (T : List Bool) : Prop := T.length ≤ 32768 ∧ bs = mb T
theorem isMap_uniq {bs : List UInt8} {T U : List Bool} (h : isMap bs T) (g : isMap bs U) : T = U := by
  obtain ⟨h1, rfl⟩ := h
  obtain ⟨g1, g2⟩ := g
  have e1 : gat (mb T) = (T.length, (grp T.length).length) := gat_some (by omega) (List.prefix_append _ _)
  have e2 : gat (mb T) = (U.length, (grp U.length).length) := by rw [g2]; exact gat_some (by omega) (List.prefix_append _ _)
  rw [e1] at e2
  simp only [Prod.mk.injEq] at e2
  refine list_ext e2.1 fun i => ?_
  unfold mb at g2
  rw [e2.1] at g2
  have := List.append_cancel_left g2
  rw [← pk_bit, ← pk_bit, this]
theorem load_marks {n : Nat} {D : List UInt8} (hn : n ≤ 32768) (hD : D.length = (n + 7) / 8) (hp : past n D = false) : ∃ T : List Bool, T.length = n ∧ pk T = D := by
  refine ⟨(List.range n).map (bit D), by simp, ?_⟩
  refine (Rep.pk ⟨by simpa using hD, by simpa using hn, fun i => ?_⟩).symm
  unfold tkn
  by_cases h : i < n
  · simp [h]
  · rw [past_none hD hp i (by omega), List.getElem?_eq_none (by simp; omega)]; rfl

theorem Load_ct {L : RL} {b : Value} {bs : List UInt8} (hb : BV L b bs) (hn : bs.length ≤ 400000000000) :
    CS Try.prog 11 [b] L fun v L' => (∃ T rm rb, isMap bs T ∧ v = .tuple #[ptr rm, .int .i64 0] ∧ L' = fm rm rb T L) ∨ ((∀ T, ¬ isMap bs T) ∧ v = .tuple #[.pointer none, .int .i64 4] ∧ L' = L) := by
  refine CS.mk (fn := Try.f11) rfl rfl rfl rfl ?_
  repeat refine LS.seq ?_
  refine LS.region rfl ?_
  refine OS.pure rfl (fun _ => rfl) rfl ?_
  refine OS.pure rfl (fun _ => rfl) rfl ?_
  refine OS.nil ?_
  repeat refine LS.seq ?_
  refine LS.region rfl ?_
  refine OS.pure rfl (fun _ => rfl) rfl ?_
  refine OS.call noGo rfl (fun _ => rfl) ((NewReader_ct hb.sv hn).mono ?_)
  rintro v L' ⟨r, rb2, rfl, v2, rfl, hv2⟩
  refine ⟨_, rfl, ?_⟩
  refine OS.pure rfl (fun _ => rfl) rfl ?_
  refine OS.nil ?_
  repeat refine LS.seq ?_
  refine LS.region rfl ?_
  refine OS.pure rfl (fun _ => rfl) rfl ?_
  refine OS.call noGo rfl (fun _ => rfl) ((RCount_ct (most := 32768) (by decide) (by decide) hv2 (by simp only; omega)).mono ?_)
  rintro v L' ⟨rfl, v3, rfl, hv3⟩
  refine ⟨_, rfl, ?_⟩
  refine OS.pure rfl (fun _ => rfl) rfl ?_
  refine OS.nil ?_
  by_cases hz : (cAt bs 32768).2 = 0
  · have hno : ∀ T, ¬ isMap bs T := by
      rintro T ⟨h1, rfl⟩
      have e1 : gat (mb T) = (T.length, (grp T.length).length) := gat_some (by omega) (List.prefix_append _ _)
      rw [cAt_yes (by decide) (by rw [e1]; simp only; omega) (by rw [e1]; simp only; omega), e1] at hz
      have := grp_pos T.length
      simp only at hz
      omega
    rw [hz, tk_none] at hv3 ⊢
    repeat refine LS.seq ?_
    refine LS.region rfl ?_
    refine OS.pure rfl (fun _ => rfl) rfl ?_
    refine OS.call noGo rfl (fun _ => rfl) ((OK_ct).mono ?_)
    rintro v L' ⟨rfl, rfl⟩
    refine ⟨_, rfl, ?_⟩
    refine OS.pure rfl (fun _ => rfl) rfl ?_
    refine OS.pure rfl (fun _ => rfl) rfl ?_
    refine OS.skip rfl rfl ?_
    refine OS.skip rfl rfl ?_
    refine OS.skip rfl rfl ?_
    refine OS.skip rfl rfl ?_
    refine OS.skip rfl rfl ?_
    refine OS.pure rfl (fun _ => rfl) rfl ?_
    refine OS.nil ?_
    refine LS.cond rfl (fun hc => ?_) (fun hc => by cases hc)
    repeat refine LS.seq ?_
    refine LS.region rfl ?_
    refine OS.sub (Sub.drop 0 rfl) ?_
    refine OS.sub (Sub.drop 0 rfl) ?_
    refine OS.pure rfl (fun _ => rfl) rfl ?_
    refine OS.pure rfl (fun _ => rfl) rfl ?_
    refine OS.nil ?_
    refine LS.ret ⟨_, fun _ _ => rfl, ?_⟩
    exact .inr ⟨hno, rfl, rfl⟩
  · obtain ⟨n, hcn⟩ : ∃ n, (cAt bs 32768).1 = n := ⟨_, rfl⟩
    have hyes : n ≤ 32768 ∧ cAt bs 32768 = gat bs := by
      unfold cAt at hz hcn ⊢
      split at hz
      · rename_i hh
        rw [if_pos hh] at hcn ⊢
        exact ⟨by omega, rfl⟩
      · simp at hz
    obtain ⟨hn1, hcg⟩ := hyes
    have hgat : ∃ rest, bs = grp n ++ rest ∧ (cAt bs 32768).2 = (grp n).length := by
      rcases gat_inv bs with h | ⟨u, hp, h, _⟩
      · rw [hcg, h] at hz; simp at hz
      · rw [hcg, h] at hcn
        simp only at hcn
        subst hcn
        obtain ⟨rest, hr⟩ := hp
        exact ⟨rest, hr.symm, by rw [hcg, h]⟩
    obtain ⟨rest, hrest, hk⟩ := hgat
    have hdrop : bs.drop (cAt bs 32768).2 = rest := by rw [hk, hrest, List.drop_left]
    have hlen : bs.length = (grp n).length + rest.length := by rw [hrest, List.length_append]
    have hno : ∀ D, D = rest → (∀ T, T.length = n → pk T ≠ D) → ∀ T, ¬ isMap bs T := by
      rintro D rfl hD T ⟨h1, h2⟩
      have e1 : gat bs = (T.length, (grp T.length).length) := by rw [h2]; exact gat_some (by omega) (List.prefix_append _ _)
      have e2 : T.length = n := by rw [← hcn, hcg, e1]
      refine hD T e2 ?_
      rw [hrest] at h2
      unfold mb at h2
      rw [e2] at h2
      exact (List.append_cancel_left h2).symm
    rw [tk_some hz, hdrop, hcn] at hv3 ⊢
    have hv3 : OV _ v3 rest := hv3
    repeat refine LS.seq ?_
    refine LS.region rfl ?_
    refine OS.pure rfl (fun _ => rfl) rfl ?_
    refine OS.call noGo rfl (fun _ => rfl) ((OK_ct).mono ?_)
    rintro v L' ⟨rfl, rfl⟩
    refine ⟨_, rfl, ?_⟩
    refine OS.pure rfl (fun _ => rfl) rfl ?_
    refine OS.pure rfl (fun _ => rfl) rfl ?_
    refine OS.pure rfl (fun _ => rfl) rfl ?_
    refine OS.call noGo rfl (fun _ => rfl) ((Left_ct (bs := rest) hv3).mono ?_)
    rintro v L' ⟨rfl, rfl⟩
    refine ⟨_, rfl, ?_⟩
    refine OS.pure rfl (fun _ => rfl) rfl ?_
    refine OS.call noGo rfl (fun _ => rfl) ((markBytes_ct n (by omega)).mono ?_)
    rintro v L' ⟨rfl, rfl⟩
    refine ⟨_, rfl, ?_⟩
    by_cases hl : rest.length = (n + 7) / 8
    · have hb1 : (!ieqB ((rest.length : Nat) : Int) (((n + 7) / 8 : Nat) : Int)) = false := by rw [ieqB_eq, hl]; simp
      refine OS.pure rfl (e_is (fun _ => rfl) (congrArg Value.bool hb1)) rfl ?_
      refine OS.pure rfl (fun _ => rfl) rfl ?_
      refine OS.nil ?_
      refine LS.cond rfl (fun hc => by cases hc) (fun hc => ?_)
      refine LS.skip ?_
      repeat refine LS.seq ?_
      refine LS.region rfl ?_
      refine OS.pure rfl (fun _ => rfl) rfl ?_
      refine OS.pure rfl (fun _ => rfl) rfl ?_
      refine OS.pure rfl (fun _ => rfl) rfl ?_
      refine OS.pure rfl (e_len hb.sv rfl rfl rfl rfl rfl) rfl ?_
      refine OS.pure rfl (fun _ => rfl) rfl ?_
      refine OS.call noGo rfl (fun _ => rfl) ((Left_ct (bs := rest) hv3).mono ?_)
      rintro v L' ⟨rfl, rfl⟩
      refine ⟨_, rfl, ?_⟩
      refine OS.pure rfl (e_is (e_sub rfl rfl rfl (in_i64 (by omega) (by omega))) (show Value.int .i64 ((bs.length : Int) - (rest.length : Nat)) = .int .i64 ((grp n).length : Nat) by rw [hlen]; congr 1; omega)) rfl ?_
      refine OS.cutX (l := (grp n).length) (u := bs.length) hb.cons.cons rfl rfl rfl rfl rfl bound_nat rfl rfl rfl (by omega) (by omega) (fun v' hv' => ?_)
      have hcutr : (bs.drop (grp n).length).take (bs.length - (grp n).length) = rest := by
        rw [hrest, List.drop_left, List.take_of_length_le (by simp)]
      rw [hcutr, show bs.length - (grp n).length = rest.length by omega] at hv'
      refine ⟨_, rfl, ?_⟩
      refine OS.call noGo rfl (fun _ => rfl) ((copied_ct hv' (by omega)).mono ?_)
      rintro v L' ⟨rb, rfl, rfl⟩
      refine ⟨_, rfl, ?_⟩
      refine OS.pure rfl (fun _ => rfl) rfl ?_
      refine OS.fresh rfl (e_new (fun _ => rfl) rfl) (fun _ => rfl) (fun rm => ?_)
      refine OS.pure rfl (fun _ => rfl) rfl ?_
      refine OS.nil ?_
      repeat refine LS.seq ?_
      refine LS.region rfl ?_
      refine OS.pure rfl (fun _ => rfl) rfl ?_
      refine OS.call noGo rfl (fun _ => rfl) ((past_ct (n := n) (D := rest) hn1 hl).mono ?_)
      rintro v L' ⟨rfl, rfl⟩
      cases hpast : past n rest
      · obtain ⟨T, hT1, hT2⟩ := load_marks hn1 hl hpast
        refine ⟨_, rfl, ?_⟩
        refine OS.nil ?_
        refine LS.cond rfl (fun hc => by cases hc) (fun hc => ?_)
        refine LS.skip ?_
        repeat refine LS.seq ?_
        refine LS.region rfl ?_
        refine OS.sub (Sub.drop 2 rfl) ?_
        refine OS.sub (Sub.drop 2 rfl) ?_
        refine OS.pure rfl (fun _ => rfl) rfl ?_
        refine OS.pure rfl (fun _ => rfl) rfl ?_
        refine OS.pure rfl (fun _ => rfl) rfl ?_
        refine OS.nil ?_
        refine LS.ret ⟨_, fun _ _ => rfl, ?_⟩
        refine .inl ⟨T, rm, rb, ⟨by omega, ?_⟩, rfl, ?_⟩
        · unfold mb; rw [hT1, hT2]; exact hrest
        · simp only [fm, hT1, hT2]
      · refine ⟨_, rfl, ?_⟩
        refine OS.nil ?_
        refine LS.cond rfl (fun hc => ?_) (fun hc => by cases hc)
        repeat refine LS.seq ?_
        refine LS.region rfl ?_
        refine OS.sub (Sub.drop 0 rfl) ?_
        refine OS.sub (Sub.drop 0 rfl) ?_
        refine OS.sub (Sub.drop 0 rfl) ?_
        refine OS.sub (Sub.drop 0 rfl) ?_
        refine OS.pure rfl (fun _ => rfl) rfl ?_
        refine OS.pure rfl (fun _ => rfl) rfl ?_
        refine OS.nil ?_
        refine LS.ret ⟨_, fun _ _ => rfl, ?_⟩
        refine .inr ⟨hno rest rfl fun T h1 h2 => ?_, rfl, rfl⟩
        rw [past_some fun i hi => by rw [← h2, pk_bit, tkn_out (by omega)]] at hpast
        cases hpast
    · have hb1 : (!ieqB ((rest.length : Nat) : Int) (((n + 7) / 8 : Nat) : Int)) = true := by rw [ieqB_eq]; simp; omega
      refine OS.pure rfl (e_is (fun _ => rfl) (congrArg Value.bool hb1)) rfl ?_
      refine OS.pure rfl (fun _ => rfl) rfl ?_
      refine OS.nil ?_
      refine LS.cond rfl (fun hc => ?_) (fun hc => by cases hc)
      repeat refine LS.seq ?_
      refine LS.region rfl ?_
      refine OS.sub (Sub.drop 0 rfl) ?_
      refine OS.sub (Sub.drop 0 rfl) ?_
      refine OS.pure rfl (fun _ => rfl) rfl ?_
      refine OS.pure rfl (fun _ => rfl) rfl ?_
      refine OS.nil ?_
      refine LS.ret ⟨_, fun _ _ => rfl, ?_⟩
      refine .inr ⟨hno rest rfl fun T h1 h2 => ?_, rfl, rfl⟩
      rw [← h2, pk_len, h1] at hl
      exact hl rfl
end Go.Proofs.Ytlifdkihjnnonaa
