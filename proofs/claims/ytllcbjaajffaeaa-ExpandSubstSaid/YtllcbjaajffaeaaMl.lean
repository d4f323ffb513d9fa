/- Layer 14: the document's Check and Rows. -/
import Derived.Test.YtllcbjaajffaeaaMk
namespace Go.Am
set_option linter.unusedSimpArgs false
section
variable {P : Program} {a : Slots} {o : Oper} {L : RL}
theorem e_appendE {c : Call} {e : TypeId} {sz bts n r : Nat} {x : Value} {new : List Value} (hs : SV sz L x n new) (hn : 0 < n) (hone : allOne new = true) (ho : o.op = .call c) (hT : appT P c = some (e, sz, bts)) (ha : evs a c.args.toList = some [.slice (some ⟨r, 0, none⟩) 0 0, x])
    (hsm : n * bts ≤ 140737488355328) (hsm2 : n ≤ 140737488355328) :
    ∀ h, Has h L → ∃ r' h₁, opB P a o h = some (.val (.slice (some ⟨r', 0, none⟩) n openCap) h₁) ∧ Has h₁ ((r', .cells e new) :: L) := by
  intro h H
  have hn1 := hs.lenB
  have hf : firstB sz n x h = some new := hs.first H
  have hone' : (allOne new && (notText x || Nat.beq sz 1)) = true := by rw [hone, hs.notText]; rfl
  unfold appT at hT
  split at hT
  case h_2 => cases hT
  rename_i hcal
  split at hT
  case h_2 => cases hT
  rename_i st xt hst hxt
  split at hT
  case h_2 => cases hT
  rename_i e' xd hu1 hu2
  have hxd : (∀ k, xd = .int k → False) ∧ ∃ i, P.info? e' = some i ∧ zeroFits P e' = true ∧ e' = e ∧ i.size = sz ∧ i.bytes = bts := by
    split at hT
    · cases hT
    · rename_i hno
      split at hT
      case h_2 => cases hT
      rename_i i hi hz
      simp at hT
      obtain ⟨rfl, rfl, rfl⟩ := hT
      exact ⟨fun k hk => hno k hk, i, hi, hz, rfl, rfl, rfl⟩
  obtain ⟨hno, i, hi, hz, rfl, rfl, rfl⟩ := hxd
  obtain ⟨h₁, e₁⟩ := h.new_some (.cells e' ([] ++ new))
  refine ⟨h.next, h₁, ?_, H.new (by simpa using e₁)⟩
  have hs' : sizeB P e' = some i.size := by unfold sizeB; rw [hi]
  have b2 : Nat.ble n 140737488355328 = true := Nat.ble_eq_true_of_le (by omega)
  have hgrow : growB P h e' n [] new = some (.slice (some ⟨h.next, 0, none⟩) n openCap, h₁) := by
    simp only [growB, join_of, hz, b2, Bool.and_self, newCells, hs', e₁]
  simp only [opB, ho, ha, callOpB, hcal, appendB, hst, hxt, hu1, hu2]
  cases xd <;> first | exact (hno _ rfl).elim | skip
  all_goals
    simp only [hi, hn1, hf, hone']
    have hc : Nat.beq 0 openCap = false := beq_false (by decide)
    have b0 : Nat.ble n 0 = false := by
      cases hb : Nat.ble n 0 with
      | false => rfl
      | true => have := of_ble hb; omega
    have b1 : smallB n i.bytes = true := by unfold smallB; exact Nat.ble_eq_true_of_le (by simpa using hsm)
    have bf : firstB i.size 0 (.slice (some ⟨r, 0, none⟩) 0 0) h = some [] := by simp [firstB]
    simp only [Nat.zero_add, Nat.add_zero, hc, b0, bf, b1, hgrow, ret2]

theorem e_appendN {c : Call} {e : TypeId} {sz bts n r : Nat} {x : Value} {new : List Value} (hs : SV sz L x 0 new) (hn : n < openCap) (ho : o.op = .call c) (hT : appT P c = some (e, sz, bts)) (ha : evs a c.args.toList = some [.slice (some ⟨r, 0, none⟩) n n, x]) :
    ∀ h, Has h L → opB P a o h = some (.val (.slice (some ⟨r, 0, none⟩) n n) h) := by
  intro h H
  have hn1 := hs.lenB
  have hnew : new = [] := List.eq_nil_of_length_eq_zero (by have := hs.len; omega)
  subst hnew
  have hf : firstB sz 0 x h = some [] := hs.first H
  have hone' : (allOne [] && (notText x || Nat.beq sz 1)) = true := by rw [hs.notText]; rfl
  unfold appT at hT
  split at hT
  case h_2 => cases hT
  rename_i hcal
  split at hT
  case h_2 => cases hT
  rename_i st xt hst hxt
  split at hT
  case h_2 => cases hT
  rename_i e' xd hu1 hu2
  have hxd : (∀ k, xd = .int k → False) ∧ ∃ i, P.info? e' = some i ∧ zeroFits P e' = true ∧ e' = e ∧ i.size = sz ∧ i.bytes = bts := by
    split at hT
    · cases hT
    · rename_i hno
      split at hT
      case h_2 => cases hT
      rename_i i hi hz
      simp at hT
      obtain ⟨rfl, rfl, rfl⟩ := hT
      exact ⟨fun k hk => hno k hk, i, hi, hz, rfl, rfl, rfl⟩
  obtain ⟨hno, i, hi, hz, rfl, rfl, rfl⟩ := hxd
  simp only [opB, ho, ha, callOpB, hcal, appendB, hst, hxt, hu1, hu2]
  cases xd <;> first | exact (hno _ rfl).elim | skip
  all_goals
    simp only [hi, hn1, hf, hone']
    have hc : Nat.beq n openCap = false := beq_false (by omega)
    have b0 : Nat.ble (n + 0) n = true := Nat.ble_eq_true_of_le (by omega)
    simp only [hc, b0, beq_true rfl, ret2]
/-- What is appended to an empty list of one's own. -/
theorem e_appOwn {c : Call} {e : TypeId} {sz bts n r : Nat} {x : Value} {new : List Value} (hs : SV sz L x n new) (hone : allOne new = true) (ho : o.op = .call c) (hT : appT P c = some (e, sz, bts)) (ha : evs a c.args.toList = some [.slice (some ⟨r, 0, none⟩) 0 0, x]) (hsm : n * bts ≤ 140737488355328) (hsm2 : n ≤ 140737488355328) :
    ∀ h, Has h L → ∃ v h₁ L₁, opB P a o h = some (.val v h₁) ∧ Has h₁ L₁ ∧ ∃ X, L₁ = X ++ L ∧ ((n = 0 ∧ v = .slice (some ⟨r, 0, none⟩) 0 0 ∧ X = []) ∨ ∃ r', v = .slice (some ⟨r', 0, none⟩) n openCap ∧ X = [(r', .cells e new)]) := by
  intro h H
  rcases Nat.eq_zero_or_pos n with rfl | hn
  · exact ⟨_, h, L, e_appendN hs (by decide) ho hT ha h H, H, [], rfl, .inl ⟨rfl, rfl, rfl⟩⟩
  · obtain ⟨r', h₁, e₁, H₁⟩ := e_appendE hs hn hone ho hT ha hsm hsm2 h H
    exact ⟨_, h₁, _, e₁, H₁, [(r', .cells e new)], rfl, .inr ⟨r', rfl, rfl⟩⟩
end
theorem OGS.at {P : Program} {ops : List Oper} {o : Oper} {ms : List Nat} {K : Slots → RL → Prop} {n : Nat} {pre : List Nat} {dn : Dn} {a : Slots} {L : RL} {x : Operand} {v : Value} {t e : TypeId} {i : Operand} {sz m j : Nat} {k : IntKind} {cs : List Value} (q : Nat) (hn : nextB ops ms pre q = true) (hs : SV sz L v m cs) (hj : j < m) (hq : ops[q]? = some o) (hw : wantedB ops o a = true) (ho : o.op = .indexAddr t x i) (hx : aev a x = some v) (hi : aev a i = some (.int k (j : Int)))
    (ht : P.underlying t = some (.slice e)) (hz : sizeB P e = some sz) (hk : ∀ r off row cs₀, (r, row) ∈ L → rdRow row = some cs₀ → (∀ m u, m < sz → cs[j * sz + m]? = some u → cs₀[off + m]? = some u) → (∀ us, cut cs (j * sz) sz = some us → cut cs₀ off sz = some us) →
      ∃ a₁, putAt a o.dst (.pointer (some ⟨r, off, none⟩)) = some a₁ ∧ OGS P ops ms K n (q :: pre) dn a₁ L) : OGS P ops ms K (n + 1) pre dn a L := by
  obtain ⟨r, off, row, cs₀, h1, h2, h3, h4, h5⟩ := e_at hs hj ho hx hi ht hz
  obtain ⟨a₁, ep, k'⟩ := hk r off row cs₀ h1 h2 h3 h4
  exact OGS.pure q hn hq hw h5 ep k'
theorem OGS.at1 {P : Program} {ops : List Oper} {o : Oper} {ms : List Nat} {K : Slots → RL → Prop} {n : Nat} {pre : List Nat} {dn : Dn} {a : Slots} {L : RL} {x : Operand} {v : Value} {t e : TypeId} {i : Operand} {m j : Nat} {k : IntKind} {u : Value} {cs : List Value} (q : Nat) (hn : nextB ops ms pre q = true) (hs : SV 1 L v m cs) (hu : cs[j]? = some u) (hq : ops[q]? = some o) (hw : wantedB ops o a = true) (ho : o.op = .indexAddr t x i) (hx : aev a x = some v) (hi : aev a i = some (.int k (j : Int)))
    (ht : P.underlying t = some (.slice e)) (hz : sizeB P e = some 1) (hk : ∀ r off row cs₀, (r, row) ∈ L → rdRow row = some cs₀ → cs₀[off]? = some u →
      ∃ a₁, putAt a o.dst (.pointer (some ⟨r, off, none⟩)) = some a₁ ∧ OGS P ops ms K n (q :: pre) dn a₁ L) : OGS P ops ms K (n + 1) pre dn a L := by
  obtain ⟨r, off, row, cs₀, h1, h2, h3, h4, h5⟩ := e_at hs (by have := (List.getElem?_eq_some_iff.1 hu).1; have := hs.len; omega) ho hx hi ht hz
  obtain ⟨a₁, ep, k'⟩ := hk r off row cs₀ h1 h2 (h3 0 u (by omega) (by rw [Nat.mul_one]; exact hu))
  exact OGS.pure q hn hq hw h5 ep k'
end Go.Am
namespace Go.Mx
theorem fold_snoc {l : List (List B)} {i : Nat} {vs : List B} (h : l[i]? = some vs) (R : List (List B)) : (l.take (i + 1)).foldl stepR R = stepR ((l.take i).foldl stepR R) vs := by
  rw [List.take_add_one, h, List.foldl_append]; rfl
theorem step_snoc {R : List (List B)} {k : Nat} {r : List B} (h : R[k]? = some r) (vs : List B) : stepR (R.take (k + 1)) vs = stepR (R.take k) vs ++ vs.map (fun v => r ++ [v]) := by
  rw [List.take_add_one, h]; simp [stepR]
theorem map_snoc {vs : List B} {j : Nat} {v : B} (h : vs[j]? = some v) (r : List B) : (vs.take (j + 1)).map (fun v => r ++ [v]) = (vs.take j).map (fun v => r ++ [v]) ++ [r ++ [v]] := by
  rw [List.take_add_one, h]; simp
theorem step_len (R : List (List B)) (vs : List B) : (stepR R vs).length = R.length * vs.length := by
  simp [stepR, List.length_flatMap, List.map_const', List.sum_replicate_nat]
theorem fold_len : ∀ (l : List (List B)) (R : List (List B)), (l.foldl stepR R).length = R.length * cnt (lens l)
  | [], R => by simp [lens, cnt]
  | vs :: l, R => by
    rw [List.foldl_cons, fold_len l, step_len]
    simp [lens, cnt, Nat.mul_assoc]
theorem fold_each : ∀ (l : List (List B)) (R : List (List B)) (m : Nat), (∀ r, r ∈ R → r.length = m) → ∀ r, r ∈ l.foldl stepR R → r.length = m + l.length
  | [], R, m, h, r, hr => by simpa using h r hr
  | vs :: l, R, m, h, r, hr => by
    rw [List.foldl_cons] at hr
    have := fold_each l (stepR R vs) (m + 1) (fun r hr => by
      obtain ⟨q, hq, h2⟩ := List.mem_flatMap.1 hr
      obtain ⟨v, _, rfl⟩ := List.mem_map.1 h2
      simp [h q hq]) r hr
    simp; omega
theorem min_mul {P n : Nat} (hP : 0 < P) (hn : 0 < n) : min (min P 25 * min n 25) 25 = min (P * n) 25 := by
  rcases Nat.le_total P 25 with h1 | h1 <;> rcases Nat.le_total n 25 with h2 | h2
  · rw [Nat.min_eq_left h1, Nat.min_eq_left h2]
  · rw [Nat.min_eq_left h1, Nat.min_eq_right h2]
    have a := Nat.mul_le_mul_left P h2
    have b : 25 ≤ P * 25 := Nat.le_mul_of_pos_left 25 hP
    omega
  · rw [Nat.min_eq_right h1, Nat.min_eq_left h2]
    have a := Nat.mul_le_mul_right n h1
    have b : 25 ≤ 25 * n := Nat.le_mul_of_pos_right 25 hn
    omega
  · rw [Nat.min_eq_right h1, Nat.min_eq_right h2]
    have a := Nat.mul_le_mul h1 h2
    omega
end Go.Mx
namespace Go.Proofs.Ytllcbjaajffaeaa
open Go.Am Go.Mx
set_option linter.unusedVariables false
set_option linter.unusedSimpArgs false
set_option maxRecDepth 20000
set_option maxHeartbeats 4000000
attribute [local irreducible] OS LSr ODS CS YS OGS OT
theorem refCheck_ct {L : RL} {v : Value} {l : List Ax} {cs : List Value} (hv : SV 2 L v l.length cs) (hx : AxR L l cs) (hn : l.length ≤ 1000000) (hm : ∀ x, x ∈ l → x.2.length ≤ 140737488355328) :
    CS Try.prog 34 [v] L fun u L' => u = .int .i64 (chk l : Nat) ∧ L' = L := by
  refine CS.mk (fn := Try.f34) rfl rfl rfl rfl ?_
  refine yG ?_
  refine LS.loopJ [0, 3, 4] (fun q a L' => ∃ k c : Nat, q = l.length - k ∧ k ≤ l.length ∧ c = min (cnt (nsA (l.take k))) 25 ∧ (∀ x, x ∈ l.take k → 0 < x.2.length) ∧ bad [] l = bad (nmsA (l.take k)) (l.drop k) ∧ L' = L ∧ a = [v, .chan none, .chan none, .int .i64 (c : Nat), .int .i64 (k : Nat), .chan none, .chan none, .chan none, .chan none, .chan none, .chan none, .chan none, .chan none, .chan none, .chan none, .chan none, .chan none, .chan none, .chan none, .chan none, .chan none, .chan none, .chan none, .chan none, .chan none, .chan none, .chan none, .chan none, .chan none, .chan none, .chan none, .chan none, .chan none, .chan none, .chan none, .chan none, .chan none, .chan none, .chan none, .chan none, .chan none, .chan none, .chan none, .chan none, .chan none, .chan none, .chan none]) (n := l.length) rfl ⟨0, 1, rfl, by omega, by simp [nsA, cnt], by simp, rfl, rfl, rfl⟩ ?_
  rintro q a L' ⟨k, c, rfl, hk, hcn, hpk, hbad, hL, rfl⟩
  rw [hL]
  clear hL
  have hc25 : c ≤ 25 := by rw [hcn]; exact Nat.min_le_right _ _
  refine yG ?_
  repeat refine LS.seq ?_
  refine LS.cond rfl (fun hc => ?_) (fun hc => ?_)
  · have hc := lt_of hc
    obtain ⟨x, hxk⟩ := ext_list (l := l) (k := k) (by omega)
    obtain ⟨g0, b, g1, g2, g3⟩ := hx.get hxk
    have hst := bad_step hxk
    rw [← hbad] at hst
    have hxm := hm x (List.mem_of_getElem? hxk)
    refine LS.skip ?_
    refine yG ?_
    refine LS.loopJ [0, 3, 4, 5] (fun q a L' => ∃ j : Nat, q = k - j ∧ j ≤ k ∧ (nmsA (l.take j)).contains x.1 = false ∧ L' = L ∧ a = [v, .chan none, .chan none, .int .i64 (c : Nat), .int .i64 (k : Nat), .int .i64 (j : Nat), .chan none, .chan none, .chan none, .chan none, .chan none, .chan none, .chan none, .chan none, .chan none, .chan none, .chan none, .chan none, .chan none, .chan none, .chan none, .chan none, .chan none, .chan none, .chan none, .chan none, .chan none, .chan none, .chan none, .chan none, .chan none, .chan none, .chan none, .chan none, .chan none, .chan none, .chan none, .chan none, .chan none, .chan none, .chan none, .chan none, .chan none, .chan none, .chan none, .chan none, .chan none]) (n := k) rfl ⟨0, rfl, by omega, by simp [nmsA], rfl, rfl⟩ ?_
    rintro q a L' ⟨j, rfl, hj, hcon, hL, rfl⟩
    rw [hL]
    clear hL
    by_cases hjk : j < k
    · have hbj : (!ileB ((k : Nat) : Int) (j : Nat)) = true := by rw [ileB_eq]; simp; omega
      obtain ⟨y, hyj⟩ := ext_list (l := l) (k := j) (by omega)
      obtain ⟨f0, b', f1, f2, f3⟩ := hx.get hyj
      refine yG ?_
      repeat refine LS.seq ?_
      refine LS.drawn noGo mixed [(0, false), (1, false), (2, false), (3, false), (4, false), (5, false), (6, false), (7, false), (8, false), (9, false), (10, false)] rfl rfl (by kernel_rfl) ?_
      refine yG ?_
      refine ODS.at (j := j) hv (by omega) rfl rfl rfl rfl rfl rfl rfl (fun r0 o0 row0 cs0 m0 c0 h0 k0 => ?_)
      refine ⟨_, rfl, ?_⟩
      refine yG ?_
      refine ODS.read rfl rfl (e_loadm m0 c0 rfl rfl (part_one rfl (h0 0 _ (by omega) f0))) rfl ?_
      refine yG ?_
      refine ODS.at (j := k) hv (by omega) rfl rfl rfl rfl rfl rfl rfl (fun r1 o1 row1 cs1 m1 c1 h1 k1 => ?_)
      refine ⟨_, rfl, ?_⟩
      refine yG ?_
      refine ODS.read rfl rfl (e_loadm m1 c1 rfl rfl (part_one rfl (h1 0 _ (by omega) g0))) rfl ?_
      rcases tf (bytesEq y.1 x.1) with hq | hq
      · have hyx : y.1 = x.1 := by rw [beq_bytes] at hq; simpa using hq
        have hin : (nmsA (l.take k)).contains x.1 = true := by
          rw [List.contains_iff_mem, ← hyx]
          exact List.mem_map_of_mem (f := Prod.fst) (List.mem_of_getElem? (i := j) (by rw [List.getElem?_take_of_lt hjk]; exact hyj))
        rw [if_pos hin] at hst
        have hchk : chk l = 6 := by unfold chk; rw [hst]; rfl
        rw [hchk]
        refine yG ?_
        exact ⟨rfl, rfl⟩
      · have hyx : ¬ y.1 = x.1 := by rw [beq_bytes] at hq; simpa using hq
        refine yG ?_
        refine ⟨k - (j + 1), by omega, j + 1, rfl, by omega, ?_, rfl, rfl⟩
        rw [List.take_add_one, hyj]
        have hcon' := hcon
        simp only [nmsA, List.map_append, List.contains_eq_mem, List.mem_append, decide_eq_false_iff_not, not_or] at hcon' ⊢
        exact ⟨hcon', by simp; exact fun e => hyx e.symm⟩
    · have hbj : (!ileB ((k : Nat) : Int) (j : Nat)) = false := by rw [ileB_eq]; simp; omega
      obtain rfl : j = k := by omega
      rw [if_neg (by rw [hcon]; simp)] at hst
      refine yG ?_
      refine LS.exit ?_
      refine yG ?_
      refine OS.at (j := j) hv (by omega) rfl rfl rfl rfl rfl rfl (fun r0 o0 row0 cs0 m0 c0 h0 k0 => ?_)
      refine ⟨_, rfl, ?_⟩
      refine yG ?_
      refine OS.read rfl (e_loadm m0 c0 rfl rfl (part_one rfl (h0 1 _ (by omega) g1))) rfl ?_
      by_cases hz : x.2.length = 0
      · have hb : ieqB ((x.2.length : Nat) : Int) 0 = true := by rw [hz]; rfl
        rw [if_pos hz] at hst
        have hchk : chk l = 1 := by unfold chk; rw [hst]; rfl
        rw [hchk]
        refine yG ?_
        exact ⟨rfl, rfl⟩
      · have hb : ieqB ((x.2.length : Nat) : Int) 0 = false := by
          rw [Bool.eq_false_iff]
          intro h
          have := eq_of h
          omega
        rw [if_neg hz] at hst
        have e1 : min ((x.2.length : Nat) : Int) 25 = ((min x.2.length 25 : Nat) : Int) := by omega
        have e2 : min ((c * min x.2.length 25 : Nat) : Int) 25 = ((min (c * min x.2.length 25) 25 : Nat) : Int) := by omega
        have hmul : c * min x.2.length 25 ≤ 25 * 25 := Nat.mul_le_mul hc25 (Nat.min_le_right _ _)
        refine yG ?_
        refine OS.at (j := j) hv (by omega) rfl rfl rfl rfl rfl rfl (fun r1 o1 row1 cs1 m1 c1 h1 k1 => ?_)
        refine ⟨_, rfl, ?_⟩
        refine yG ?_
        refine OS.read rfl (e_loadm m1 c1 rfl rfl (part_one rfl (h1 1 _ (by omega) g1))) rfl ?_
        refine OS.pure rfl (e_len g2 rfl rfl rfl rfl rfl) rfl ?_
        refine OS.pure rfl (e_min rfl rfl rfl) rfl ?_
        rw [e1]
        refine OS.pure rfl (e_mulN (m := c) (n := min x.2.length 25) rfl rfl rfl (in_i64 (by omega) (by omega))) rfl ?_
        refine OS.pure rfl (e_min rfl rfl rfl) rfl ?_
        rw [e2]
        refine yG ?_
        refine ⟨l.length - (j + 1), by omega, j + 1, _, rfl, by omega, ?_, ?_, hst, rfl, rfl⟩
        · rw [cnt_step hxk, hcn]
          exact min_mul (cnt_pos _ fun n hn => by obtain ⟨y, hy, rfl⟩ := List.mem_map.1 hn; exact hpk y hy) (by omega)
        · intro y hy
          rw [List.take_add_one, hxk] at hy
          rcases List.mem_append.1 hy with hy | hy
          · exact hpk y hy
          · simp at hy; subst hy; omega
  · have hc := nlt_of hc
    obtain rfl : k = l.length := by omega
    rw [List.drop_length, bad] at hbad
    rw [List.take_length] at hcn
    by_cases hfl : 24 < cnt (nsA l)
    · have hchk : chk l = 3 := by unfold chk; rw [hbad, if_neg (by simp), if_pos hfl]
      have hb : (!ileB ((c : Nat) : Int) 24) = true := by rw [ileB_eq]; simp; omega
      rw [hchk]
      refine LS.exit ?_
      refine yG ?_
      exact ⟨rfl, rfl⟩
    · have hchk : chk l = 0 := by unfold chk; rw [hbad, if_neg (by simp), if_neg hfl]
      have hb : (!ileB ((c : Nat) : Int) 24) = false := by rw [ileB_eq]; simp; omega
      rw [hchk]
      refine LS.exit ?_
      refine yG ?_
      exact ⟨rfl, rfl⟩
/-- Lists of texts, as cells. -/
def LLc (M : RL) (vs : List Value) (ws : List (List W)) : Prop := ∀ (i : Nat) (w : List W), ws[i]? = some w → ∃ u, vs[i]? = some u ∧ SV 1 M u w.length (strs w)
theorem LLc.mono {M N : RL} {vs : List Value} {ws : List (List W)} (h : LLc M vs ws) (hm : ∀ p, p ∈ M → p ∈ N) : LLc N vs ws := by
  intro i w hw
  obtain ⟨u, h1, h2⟩ := h i w hw
  exact ⟨u, h1, h2.mono hm⟩
theorem LLc.snoc {M : RL} {vs : List Value} {ws : List (List W)} (h : LLc M vs ws) (hl : vs.length = ws.length) {w : List W} {u : Value} (hu : SV 1 M u w.length (strs w)) : LLc M (vs ++ [u]) (ws ++ [w]) := by
  intro i x hx
  by_cases hi : i < ws.length
  · rw [List.getElem?_append_left hi] at hx
    rw [List.getElem?_append_left (by omega)]
    exact h i x hx
  · have := (List.getElem?_eq_some_iff.1 hx).1
    simp at this
    obtain rfl : i = ws.length := by omega
    rw [List.getElem?_append_right (Nat.le_refl _), Nat.sub_self] at hx
    simp at hx
    subst hx
    exact ⟨u, by rw [← hl, List.getElem?_append_right (Nat.le_refl _), Nat.sub_self]; rfl, hu⟩
def LL (M : RL) (v : Value) (ws : List (List W)) : Prop := ∃ vs, SV 1 M v ws.length vs ∧ LLc M vs ws
theorem LL.mono {M N : RL} {v : Value} {ws : List (List W)} (h : LL M v ws) (hm : ∀ p, p ∈ M → p ∈ N) : LL N v ws := by
  obtain ⟨vs, h1, h2⟩ := h
  exact ⟨vs, h1.mono hm, h2.mono hm⟩
def RefR (l : List Ax) (L : RL) (v : Value) (L' : RL) : Prop :=
  (chk l ≠ 0 ∧ v = .tuple #[.slice none 0 0, .int .i64 (chk l : Nat)] ∧ L' = L) ∨
  (chk l = 0 ∧ ∃ A c Z, v = .tuple #[.slice A (cnt (nsA l)) c, .int .i64 0] ∧ L' = Z ++ L ∧ LL Z (.slice A (cnt (nsA l)) c) (rowsL (vlsA l)))
theorem gv_own {e : TypeId} {sz n : Nat} {F L : RL} {v : Value} {cs : List Value} (h : GV e sz F v n cs L) : ∃ Z, L = Z ++ F ∧ SV sz Z v n cs := by
  rcases h with ⟨h1, h2, h3, rfl⟩ | ⟨r, rfl, hl, rfl⟩
  · exact ⟨[], rfl, .inl ⟨h1, h2, h3⟩⟩
  · exact ⟨[_], rfl, SV.row (List.mem_cons_self ..) hl⟩
theorem refRows_ct {L : RL} {v : Value} {l : List Ax} {cs : List Value} (hv : SV 2 L v l.length cs) (hx : AxR L l cs) (hn : l.length ≤ 1000000) (hm : ∀ x, x ∈ l → x.2.length ≤ 140737488355328) :
    CS Try.prog 17 [v] L (RefR l L) := by
  have hlt := chk_lt l
  refine CS.mk (fn := Try.f17) rfl rfl rfl rfl ?_
  refine yG ?_
  refine OS.call noGo rfl (fun _ => rfl) ((refCheck_ct hv hx hn hm).mono ?_)
  rintro v' L2 ⟨rfl, hL⟩
  rw [hL]
  clear hL
  by_cases hz : chk l = 0
  rotate_left
  · have hb : (!ieqB ((chk l : Nat) : Int) 0) = true := by rw [ieqB_eq]; simp; omega
    refine yG ?_
    exact .inl ⟨hz, rfl, rfl⟩
  obtain ⟨hp, h24⟩ := chk_zero hz
  have hb : (!ieqB ((chk l : Nat) : Int) 0) = false := by rw [hz]; rfl
  have hlens : lens (vlsA l) = nsA l := by simp [lens, vlsA, nsA]
  have hRl : ∀ i, (((vlsA l).take i).foldl stepR [[]]).length ≤ 24 := fun i => by
    rw [fold_len]
    have h1 := cnt_le hp i
    have e : lens ((vlsA l).take i) = nsA (l.take i) := by simp [lens, vlsA, nsA, List.map_take, Function.comp_def]
    rw [e]; simp; omega
  have hRe : ∀ i, i ≤ l.length → ∀ r, r ∈ ((vlsA l).take i).foldl stepR [[]] → r.length = i := fun i hi r hr => by
    have := fold_each ((vlsA l).take i) [[]] 0 (fun r hr => by simp at hr; simp [hr]) r hr
    rw [this]; simp [vlsA]; omega
  refine yG ?_
  refine OS.fresh rfl (e_new (fun _ => rfl) rfl) (fun _ => rfl) (fun r15 => ?_)
  refine yG ?_
  refine LS.loopJ [0, 5, 6] (fun q a L' => ∃ (i : Nat) (rv : Value) (Z : RL), q = l.length - i ∧ i ≤ l.length ∧ LL Z rv (((vlsA l).take i).foldl stepR [[]]) ∧ L' = Z ++ L ∧ a = [v, .chan none, .chan none, .chan none, .chan none, rv, .int .i64 (i : Nat), .chan none, .chan none, .chan none, .chan none, .chan none, .chan none, .chan none, .chan none, .chan none, .chan none, .chan none, .chan none, .chan none, .chan none, .chan none, .chan none, .chan none, .chan none, .chan none, .chan none, .chan none, .chan none, .chan none, .chan none, .chan none, .chan none, .chan none, .chan none, .chan none, .chan none, .chan none, .chan none, .chan none, .chan none, .chan none, .chan none, .chan none, .chan none, .chan none, .chan none, .chan none, .chan none, .chan none, .chan none, .chan none, .chan none, .chan none, .chan none, .chan none, .chan none, .chan none, .chan none]) (n := l.length) rfl ⟨0, _, [_], rfl, by omega, ⟨[.slice none 0 0], SV.row (sz := 1) (n := 1) (List.mem_cons_self ..) rfl, fun i w hw => by
    cases i with
    | zero => simp at hw; subst hw; exact ⟨_, rfl, .inl ⟨rfl, rfl, rfl⟩⟩
    | succ i => simp at hw⟩, rfl, rfl⟩ ?_
  rintro q a L' ⟨i, rv, Z, rfl, hi, hRR, rfl, rfl⟩
  obtain ⟨rs, hrs, hrc⟩ := hRR
  have hRi := hRl i
  have hRei := hRe i hi
  generalize hR : ((vlsA l).take i).foldl stepR [[]] = R at hrs hrc hRi hRei
  refine yG ?_
  repeat refine LS.seq ?_
  refine LS.cond rfl (fun hc => ?_) (fun hc => ?_)
  · have hc := lt_of hc
    obtain ⟨x, hxi⟩ := ext_list (l := l) (k := i) (by omega)
    have hx24 : x.2.length ≤ 24 := Nat.le_trans (le_cnt hp (List.mem_of_getElem? hxi)) h24
    have hvi := vls_at hxi
    have hRs : ((vlsA l).take (i + 1)).foldl stepR [[]] = stepR R x.2 := by rw [fold_snoc hvi, hR]
    obtain ⟨g0, b, g1, g2, g3⟩ := hx.get hxi
    have hNl : ∀ k, (stepR (R.take k) x.2).length ≤ 576 := fun k => by
      rw [step_len, List.length_take]
      exact Nat.le_trans (Nat.mul_le_mul (Nat.le_trans (Nat.min_le_right _ _) hRi) hx24) (by decide)
    refine LS.skip ?_
    refine yG ?_
    refine LS.loopJ [0, 5, 6, 7, 8] (fun q a L' => ∃ (k : Nat) (nv : Value) (vs : List Value) (F0 Z : RL), q = R.length - k ∧ k ≤ R.length ∧ GV tS 1 F0 nv (stepR (R.take k) x.2).length vs L' ∧ F0 = Z ++ L ∧ LLc Z vs (stepR (R.take k) x.2) ∧ (SV 1 Z rv R.length rs ∧ LLc Z rs R) ∧ a = [v, .chan none, .chan none, .chan none, .chan none, rv, .int .i64 (i : Nat), nv, .int .i64 (k : Nat), .chan none, .chan none, .chan none, .chan none, .chan none, .chan none, .chan none, .chan none, .chan none, .chan none, .chan none, .chan none, .chan none, .chan none, .chan none, .chan none, .chan none, .chan none, .chan none, .chan none, .chan none, .chan none, .chan none, .chan none, .chan none, .chan none, .chan none, .chan none, .chan none, .chan none, .chan none, .chan none, .chan none, .chan none, .chan none, .chan none, .chan none, .chan none, .chan none, .chan none, .chan none, .chan none, .chan none, .chan none, .chan none, .chan none, .chan none, .chan none, .chan none, .chan none]) (n := R.length) rfl ⟨0, _, [], Z ++ L, Z, rfl, by omega, .nil, rfl, fun i w hw => by simp [stepR] at hw, ⟨hrs, hrc⟩, rfl⟩ ?_
    clear hrs hrc
    rintro q a L' ⟨k, nv, vs, F0, Z, rfl, hk, hg, rfl, hvs, ⟨hrs, hrc⟩, rfl⟩
    have mZ : ∀ p, p ∈ Z → p ∈ L' := fun p hp => hg.mem p (List.mem_append_left _ hp)
    have hrsL := hrs.mono mZ
    refine yG ?_
    repeat refine LS.seq ?_
    refine LS.cond rfl (fun hc2 => ?_) (fun hc2 => ?_)
    · have hc2 := lt_of hc2
      obtain ⟨w, hwk⟩ := ext_list (l := R) (k := k) (by omega)
      have hwl := hRei w (List.mem_of_getElem? hwk)
      have hst := step_snoc hwk x.2
      obtain ⟨u0, gu, _⟩ := hrc k w hwk
      refine LS.skip ?_
      refine yG ?_
      refine LS.loopJ [0, 5, 6, 7, 8, 9] (fun q a L' => ∃ (j : Nat) (nv : Value) (N : List (List W)) (vs : List Value) (F0 Z : RL), q = x.2.length - j ∧ j ≤ x.2.length ∧ N = stepR (R.take k) x.2 ++ (x.2.take j).map (fun v => w ++ [v]) ∧ GV tS 1 F0 nv N.length vs L' ∧ F0 = Z ++ L ∧ LLc Z vs N ∧ (SV 1 Z rv R.length rs ∧ LLc Z rs R) ∧ a = [v, .chan none, .chan none, .chan none, .chan none, rv, .int .i64 (i : Nat), nv, .int .i64 (k : Nat), .int .i64 (j : Nat), .chan none, .chan none, .chan none, .chan none, .chan none, .chan none, .chan none, .chan none, .chan none, .chan none, .chan none, .chan none, .chan none, .chan none, .chan none, .chan none, .chan none, .chan none, .chan none, .chan none, .chan none, .chan none, .chan none, .chan none, .chan none, .chan none, .chan none, .chan none, .chan none, .chan none, .chan none, .chan none, .chan none, .chan none, .chan none, .chan none, .chan none, .chan none, .chan none, .chan none, .chan none, .chan none, .chan none, .chan none, .chan none, .chan none, .chan none, .chan none, .chan none]) (n := x.2.length) rfl ⟨0, nv, _, vs, Z ++ L, Z, rfl, by omega, (by simp), hg, rfl, hvs, ⟨hrs, hrc⟩, rfl⟩ ?_
      clear hg hvs hrs hrc hrsL mZ
      rintro q a L' ⟨j, nv, N, vs, F0, Z, rfl, hj, hN, hg, rfl, hvs, ⟨hrs, hrc⟩, rfl⟩
      have hvL : SV 2 L' v l.length cs := hv.mono fun p hp => hg.mem p (List.mem_append_right _ hp)
      have g2L := g2.mono fun p hp => hg.mem p (List.mem_append_right _ hp)
      have hNlen : N.length ≤ 600 := by
        have := hNl k
        rw [hN]; simp; omega
      have hvl2 : vs.length = N.length := by have := hg.sv.len; omega
      refine yG ?_
      refine OS.at (j := i) hvL (by omega) rfl rfl rfl rfl rfl rfl (fun r0 o0 row0 cs0 m0 c0 h0 k0 => ?_)
      refine ⟨_, rfl, ?_⟩
      refine yG ?_
      refine OS.read rfl (e_loadm m0 c0 rfl rfl (part_one rfl (h0 1 _ (by omega) g1))) rfl ?_
      refine OS.pure rfl (e_len g2 rfl rfl rfl rfl rfl) rfl ?_
      refine yG ?_
      clear m0 c0 h0 k0
      repeat refine LS.seq ?_
      refine LS.cond rfl (fun hc3 => ?_) (fun hc3 => ?_)
      · have hc3 := lt_of hc3
        obtain ⟨y, hyj⟩ := ext_list (l := x.2) (k := j) (by omega)
        obtain ⟨u, gu, hrv0⟩ := hrc k w hwk
        have mZ : ∀ p, p ∈ Z → p ∈ L' := fun p hp => hg.mem p (List.mem_append_left _ hp)
        have hrv := hrv0.mono mZ
        have hrsL := hrs.mono mZ
        have hmsn := map_snoc hyj w
        have hfin : ∀ (e0 e2 e3 : Nat × ARow) (r16 r18 : Nat), GV tS 1 ((e0 :: (r16, ARow.cells 9 (strs w ++ [str y])) :: e2 :: e3 :: Z) ++ L) (.slice (some ⟨r18, 0, none⟩) (N.length + 1) openCap) (N ++ [w ++ [y]]).length (vs ++ [.slice (some ⟨r16, 0, none⟩) (w.length + 1) openCap]) ((r18, .cells tS (vs ++ [.slice (some ⟨r16, 0, none⟩) (w.length + 1) openCap])) :: ((e0 :: (r16, ARow.cells 9 (strs w ++ [str y])) :: e2 :: e3 :: Z) ++ L)) ∧
            LLc (e0 :: (r16, ARow.cells 9 (strs w ++ [str y])) :: e2 :: e3 :: Z) (vs ++ [.slice (some ⟨r16, 0, none⟩) (w.length + 1) openCap]) (N ++ [w ++ [y]]) ∧ SV 1 (e0 :: (r16, ARow.cells 9 (strs w ++ [str y])) :: e2 :: e3 :: Z) rv R.length rs ∧ LLc (e0 :: (r16, ARow.cells 9 (strs w ++ [str y])) :: e2 :: e3 :: Z) rs R := by
          intro e0 e2 e3 r16 r18
          have up : ∀ p, p ∈ Z → p ∈ (e0 :: (r16, ARow.cells 9 (strs w ++ [str y])) :: e2 :: e3 :: Z) := fun p hp => by simp [hp]
          refine ⟨?_, ?_, hrs.mono up, hrc.mono up⟩
          · rw [List.length_append]
            exact GV.of (by rw [List.length_append, hvl2]; simp)
          · refine (hvs.mono up).snoc hvl2 ?_
            rw [List.length_append, strs_snoc]
            exact SV.row (e := 9) (by simp) (by rw [List.length_append, strs_len]; simp)
        refine LS.skip ?_
        refine LS.seq ?_
        refine LS.mid [0, 5, 6, 8, 9, 7] (fun a L' => ∃ (nv : Value) (vs : List Value) (Z : RL), (GV tS 1 (Z ++ L) nv (N ++ [w ++ [y]]).length vs L' ∧ LLc Z vs (N ++ [w ++ [y]]) ∧ SV 1 Z rv R.length rs ∧ LLc Z rs R) ∧ a = [v, .chan none, .chan none, .chan none, .chan none, rv, .int .i64 (i : Nat), nv, .int .i64 (k : Nat), .int .i64 (j : Nat), .chan none, .chan none, .chan none, .chan none, .chan none, .chan none, .chan none, .chan none, .chan none, .chan none, .chan none, .chan none, .chan none, .chan none, .chan none, .chan none, .chan none, .chan none, .chan none, .chan none, .chan none, .chan none, .chan none, .chan none, .chan none, .chan none, .chan none, .chan none, .chan none, .chan none, .chan none, .chan none, .chan none, .chan none, .chan none, .chan none, .chan none, .chan none, .chan none, .chan none, .chan none, .chan none, .chan none, .chan none, .chan none, .chan none, .chan none, .chan none, .chan none]) ?_ ?_
        · repeat refine LS.seq ?_
          refine LS.block ?_
          repeat refine LS.seq ?_
          refine LS.forked noGo mixed 20 rfl rfl (by kernel_rfl) ?_
          refine OGS.pure 0 (by kernel_rfl) rfl rfl (fun _ => rfl) rfl ?_
          refine OGS.pure 2 (by kernel_rfl) rfl rfl (fun _ => rfl) rfl ?_
          refine OGS.pure 3 (by kernel_rfl) rfl rfl (fun _ => rfl) rfl ?_
          refine OGS.at1 (j := k) 4 (by kernel_rfl) (hrsL) (gu) rfl rfl rfl rfl rfl rfl rfl (fun ra5 oa5 rowa5 csa5 ma5 ca5 ga5 => ⟨_, rfl, ?_⟩)
          refine OGS.read 5 (by kernel_rfl) rfl rfl (e_loadm ma5 ca5 rfl rfl (part_one rfl ga5)) rfl ?_
          refine OGS.pure 7 (by kernel_rfl) rfl rfl (fun _ => rfl) rfl ?_
          refine OGS.pure 8 (by kernel_rfl) rfl rfl (fun _ => rfl) rfl ?_
          refine OGS.at (j := i) 9 (by kernel_rfl) hvL (by omega) rfl rfl rfl rfl rfl rfl rfl (fun r0 o0 row0 cs0 m0 c0 h0 k0 => ?_)
          refine ⟨_, rfl, ?_⟩
          refine OGS.pure 10 (by kernel_rfl) rfl rfl (fun _ => rfl) rfl ?_
          refine OGS.read 11 (by kernel_rfl) rfl rfl (e_loadm m0 c0 rfl rfl (part_one rfl (h0 1 _ (by omega) g1))) rfl ?_
          refine OGS.pure 12 (by kernel_rfl) rfl rfl (fun _ => rfl) rfl ?_
          refine OGS.at1 (j := j) 13 (by kernel_rfl) (g2L) (strs_at hyj) rfl rfl rfl rfl rfl rfl rfl (fun ra13 oa13 rowa13 csa13 ma13 ca13 ga13 => ⟨_, rfl, ?_⟩)
          refine OGS.read 14 (by kernel_rfl) rfl rfl (e_loadm ma13 ca13 rfl rfl (part_one rfl ga13)) rfl ?_
          rcases Nat.eq_zero_or_pos w.length with hw0 | hwp
          · obtain rfl : w = [] := List.eq_nil_of_length_eq_zero hw0
            refine OGS.turn2 1 15 (by kernel_rfl) (by kernel_rfl) ?_ ?_
            · refine OT.fresh rfl rfl (e_new (fun _ => rfl) rfl) (fun _ => rfl) (fun r1 => (by repeat (first | exact Keep.nil | refine Keep.gone rfl ?_ | refine Keep.cons rfl (e_loadm (by first | exact ma5 | exact List.mem_cons_of_mem _ ma5 | exact List.mem_cons_of_mem _ (List.mem_cons_of_mem _ ma5) | exact List.mem_cons_of_mem _ (List.mem_cons_of_mem _ (List.mem_cons_of_mem _ ma5))) ca5 rfl rfl (part_one rfl ga5)) ?_ | refine Keep.cons rfl (e_loadm (by first | exact m0 | exact List.mem_cons_of_mem _ m0 | exact List.mem_cons_of_mem _ (List.mem_cons_of_mem _ m0) | exact List.mem_cons_of_mem _ (List.mem_cons_of_mem _ (List.mem_cons_of_mem _ m0))) c0 rfl rfl (part_one rfl (h0 1 _ (by omega) g1))) ?_ | refine Keep.cons rfl (e_loadm (by first | exact ma13 | exact List.mem_cons_of_mem _ ma13 | exact List.mem_cons_of_mem _ (List.mem_cons_of_mem _ ma13) | exact List.mem_cons_of_mem _ (List.mem_cons_of_mem _ (List.mem_cons_of_mem _ ma13))) ca13 rfl rfl (part_one rfl ga13)) ?_))) (fun r1 => ?_)
              refine OGS.turn2 6 15 (by kernel_rfl) (by kernel_rfl) ?_ ?_
              · refine OT.write rfl rfl (fun h H => ⟨h, e_appendN (hrv.cons) (by decide) rfl rfl rfl h H, H⟩) rfl (by repeat (first | exact Keep.nil | refine Keep.gone rfl ?_ | refine Keep.cons rfl (e_loadm (by first | exact ma5 | exact List.mem_cons_of_mem _ ma5 | exact List.mem_cons_of_mem _ (List.mem_cons_of_mem _ ma5) | exact List.mem_cons_of_mem _ (List.mem_cons_of_mem _ (List.mem_cons_of_mem _ ma5))) ca5 rfl rfl (part_one rfl ga5)) ?_ | refine Keep.cons rfl (e_loadm (by first | exact m0 | exact List.mem_cons_of_mem _ m0 | exact List.mem_cons_of_mem _ (List.mem_cons_of_mem _ m0) | exact List.mem_cons_of_mem _ (List.mem_cons_of_mem _ (List.mem_cons_of_mem _ m0))) c0 rfl rfl (part_one rfl (h0 1 _ (by omega) g1))) ?_ | refine Keep.cons rfl (e_loadm (by first | exact ma13 | exact List.mem_cons_of_mem _ ma13 | exact List.mem_cons_of_mem _ (List.mem_cons_of_mem _ ma13) | exact List.mem_cons_of_mem _ (List.mem_cons_of_mem _ (List.mem_cons_of_mem _ ma13))) ca13 rfl rfl (part_one rfl ga13)) ?_)) ?_
                refine OGS.turn1 15 (by kernel_rfl) (by kernel_rfl) (OT.fresh rfl rfl (e_new (fun _ => rfl) rfl) (fun _ => rfl) (fun r15 => (by repeat (first | exact Keep.nil | refine Keep.gone rfl ?_ | refine Keep.cons rfl (e_loadm (by first | exact ma5 | exact List.mem_cons_of_mem _ ma5 | exact List.mem_cons_of_mem _ (List.mem_cons_of_mem _ ma5) | exact List.mem_cons_of_mem _ (List.mem_cons_of_mem _ (List.mem_cons_of_mem _ ma5))) ca5 rfl rfl (part_one rfl ga5)) ?_ | refine Keep.cons rfl (e_loadm (by first | exact m0 | exact List.mem_cons_of_mem _ m0 | exact List.mem_cons_of_mem _ (List.mem_cons_of_mem _ m0) | exact List.mem_cons_of_mem _ (List.mem_cons_of_mem _ (List.mem_cons_of_mem _ m0))) c0 rfl rfl (part_one rfl (h0 1 _ (by omega) g1))) ?_ | refine Keep.cons rfl (e_loadm (by first | exact ma13 | exact List.mem_cons_of_mem _ ma13 | exact List.mem_cons_of_mem _ (List.mem_cons_of_mem _ ma13) | exact List.mem_cons_of_mem _ (List.mem_cons_of_mem _ (List.mem_cons_of_mem _ ma13))) ca13 rfl rfl (part_one rfl ga13)) ?_))) (fun r15 => ?_))
                refine OGS.turn1 16 (by kernel_rfl) (by kernel_rfl) (OT.fresh rfl rfl (e_appendE (sz := 1) (bts := 16) (SV.row (r := r15) (e := 9) (cs := [str y]) (sz := 1) (n := 1) (by simp) rfl) (by omega) rfl rfl rfl rfl (by omega) (by omega)) (fun _ => rfl) (fun _ => (by repeat (first | exact Keep.nil | refine Keep.gone rfl ?_))) (fun r16 => ?_))
                refine OGS.turn1 17 (by kernel_rfl) (by kernel_rfl) (OT.fresh rfl rfl (e_new (fun _ => rfl) rfl) (fun _ => rfl) (fun _ => (by repeat (first | exact Keep.nil | refine Keep.gone rfl ?_))) (fun r17 => ?_))
                refine OGS.turn1 18 (by kernel_rfl) (by kernel_rfl) (OT.fresh rfl rfl (e_appendGV [_, _, _, _] (m := 1) (sz := 1) (bts := 24) hg (SV.row (sz := 1) (n := 1) (List.mem_cons_self ..) rfl) (by omega) rfl rfl rfl rfl (by omega) (by omega)) (fun _ => rfl) (fun _ => (by repeat (first | exact Keep.nil | refine Keep.gone rfl ?_))) (fun r18 => ?_))
                refine OGS.pure 19 (by kernel_rfl) rfl rfl (fun _ => rfl) rfl ?_
                refine OGS.nil (by kernel_rfl) ?_
                exact ⟨_, _, _, hfin _ _ _ r16 r18, rfl⟩
              · refine OT.fresh rfl rfl (e_new (fun _ => rfl) rfl) (fun _ => rfl) (fun r15 => (by repeat (first | exact Keep.nil | refine Keep.gone rfl ?_ | refine Keep.cons rfl (e_loadm (by first | exact ma5 | exact List.mem_cons_of_mem _ ma5 | exact List.mem_cons_of_mem _ (List.mem_cons_of_mem _ ma5) | exact List.mem_cons_of_mem _ (List.mem_cons_of_mem _ (List.mem_cons_of_mem _ ma5))) ca5 rfl rfl (part_one rfl ga5)) ?_ | refine Keep.cons rfl (e_loadm (by first | exact m0 | exact List.mem_cons_of_mem _ m0 | exact List.mem_cons_of_mem _ (List.mem_cons_of_mem _ m0) | exact List.mem_cons_of_mem _ (List.mem_cons_of_mem _ (List.mem_cons_of_mem _ m0))) c0 rfl rfl (part_one rfl (h0 1 _ (by omega) g1))) ?_ | refine Keep.cons rfl (e_loadm (by first | exact ma13 | exact List.mem_cons_of_mem _ ma13 | exact List.mem_cons_of_mem _ (List.mem_cons_of_mem _ ma13) | exact List.mem_cons_of_mem _ (List.mem_cons_of_mem _ (List.mem_cons_of_mem _ ma13))) ca13 rfl rfl (part_one rfl ga13)) ?_))) (fun r15 => ?_)
                refine OGS.turn1 6 (by kernel_rfl) (by kernel_rfl) (OT.write rfl rfl (fun h H => ⟨h, e_appendN ((hrv.cons).cons) (by decide) rfl rfl rfl h H, H⟩) rfl (by repeat (first | exact Keep.nil | refine Keep.gone rfl ?_ | refine Keep.cons rfl (e_loadm (by first | exact ma5 | exact List.mem_cons_of_mem _ ma5 | exact List.mem_cons_of_mem _ (List.mem_cons_of_mem _ ma5) | exact List.mem_cons_of_mem _ (List.mem_cons_of_mem _ (List.mem_cons_of_mem _ ma5))) ca5 rfl rfl (part_one rfl ga5)) ?_ | refine Keep.cons rfl (e_loadm (by first | exact m0 | exact List.mem_cons_of_mem _ m0 | exact List.mem_cons_of_mem _ (List.mem_cons_of_mem _ m0) | exact List.mem_cons_of_mem _ (List.mem_cons_of_mem _ (List.mem_cons_of_mem _ m0))) c0 rfl rfl (part_one rfl (h0 1 _ (by omega) g1))) ?_ | refine Keep.cons rfl (e_loadm (by first | exact ma13 | exact List.mem_cons_of_mem _ ma13 | exact List.mem_cons_of_mem _ (List.mem_cons_of_mem _ ma13) | exact List.mem_cons_of_mem _ (List.mem_cons_of_mem _ (List.mem_cons_of_mem _ ma13))) ca13 rfl rfl (part_one rfl ga13)) ?_)) ?_)
                refine OGS.turn1 16 (by kernel_rfl) (by kernel_rfl) (OT.fresh rfl rfl (e_appendE (sz := 1) (bts := 16) (SV.row (r := r15) (e := 9) (cs := [str y]) (sz := 1) (n := 1) (by simp) rfl) (by omega) rfl rfl rfl rfl (by omega) (by omega)) (fun _ => rfl) (fun _ => (by repeat (first | exact Keep.nil | refine Keep.gone rfl ?_))) (fun r16 => ?_))
                refine OGS.turn1 17 (by kernel_rfl) (by kernel_rfl) (OT.fresh rfl rfl (e_new (fun _ => rfl) rfl) (fun _ => rfl) (fun _ => (by repeat (first | exact Keep.nil | refine Keep.gone rfl ?_))) (fun r17 => ?_))
                refine OGS.turn1 18 (by kernel_rfl) (by kernel_rfl) (OT.fresh rfl rfl (e_appendGV [_, _, _, _] (m := 1) (sz := 1) (bts := 24) hg (SV.row (sz := 1) (n := 1) (List.mem_cons_self ..) rfl) (by omega) rfl rfl rfl rfl (by omega) (by omega)) (fun _ => rfl) (fun _ => (by repeat (first | exact Keep.nil | refine Keep.gone rfl ?_))) (fun r18 => ?_))
                refine OGS.pure 19 (by kernel_rfl) rfl rfl (fun _ => rfl) rfl ?_
                refine OGS.nil (by kernel_rfl) ?_
                exact ⟨_, _, _, hfin _ _ _ r16 r18, rfl⟩
            · refine OT.fresh rfl rfl (e_new (fun _ => rfl) rfl) (fun _ => rfl) (fun r15 => (by repeat (first | exact Keep.nil | refine Keep.gone rfl ?_ | refine Keep.cons rfl (e_loadm (by first | exact ma5 | exact List.mem_cons_of_mem _ ma5 | exact List.mem_cons_of_mem _ (List.mem_cons_of_mem _ ma5) | exact List.mem_cons_of_mem _ (List.mem_cons_of_mem _ (List.mem_cons_of_mem _ ma5))) ca5 rfl rfl (part_one rfl ga5)) ?_ | refine Keep.cons rfl (e_loadm (by first | exact m0 | exact List.mem_cons_of_mem _ m0 | exact List.mem_cons_of_mem _ (List.mem_cons_of_mem _ m0) | exact List.mem_cons_of_mem _ (List.mem_cons_of_mem _ (List.mem_cons_of_mem _ m0))) c0 rfl rfl (part_one rfl (h0 1 _ (by omega) g1))) ?_ | refine Keep.cons rfl (e_loadm (by first | exact ma13 | exact List.mem_cons_of_mem _ ma13 | exact List.mem_cons_of_mem _ (List.mem_cons_of_mem _ ma13) | exact List.mem_cons_of_mem _ (List.mem_cons_of_mem _ (List.mem_cons_of_mem _ ma13))) ca13 rfl rfl (part_one rfl ga13)) ?_))) (fun r15 => ?_)
              refine OGS.turn1 1 (by kernel_rfl) (by kernel_rfl) (OT.fresh rfl rfl (e_new (fun _ => rfl) rfl) (fun _ => rfl) (fun r1 => (by repeat (first | exact Keep.nil | refine Keep.gone rfl ?_ | refine Keep.cons rfl (e_loadm (by first | exact ma5 | exact List.mem_cons_of_mem _ ma5 | exact List.mem_cons_of_mem _ (List.mem_cons_of_mem _ ma5) | exact List.mem_cons_of_mem _ (List.mem_cons_of_mem _ (List.mem_cons_of_mem _ ma5))) ca5 rfl rfl (part_one rfl ga5)) ?_ | refine Keep.cons rfl (e_loadm (by first | exact m0 | exact List.mem_cons_of_mem _ m0 | exact List.mem_cons_of_mem _ (List.mem_cons_of_mem _ m0) | exact List.mem_cons_of_mem _ (List.mem_cons_of_mem _ (List.mem_cons_of_mem _ m0))) c0 rfl rfl (part_one rfl (h0 1 _ (by omega) g1))) ?_ | refine Keep.cons rfl (e_loadm (by first | exact ma13 | exact List.mem_cons_of_mem _ ma13 | exact List.mem_cons_of_mem _ (List.mem_cons_of_mem _ ma13) | exact List.mem_cons_of_mem _ (List.mem_cons_of_mem _ (List.mem_cons_of_mem _ ma13))) ca13 rfl rfl (part_one rfl ga13)) ?_))) (fun r1 => ?_))
              refine OGS.turn1 6 (by kernel_rfl) (by kernel_rfl) (OT.write rfl rfl (fun h H => ⟨h, e_appendN ((hrv.cons).cons) (by decide) rfl rfl rfl h H, H⟩) rfl (by repeat (first | exact Keep.nil | refine Keep.gone rfl ?_ | refine Keep.cons rfl (e_loadm (by first | exact ma5 | exact List.mem_cons_of_mem _ ma5 | exact List.mem_cons_of_mem _ (List.mem_cons_of_mem _ ma5) | exact List.mem_cons_of_mem _ (List.mem_cons_of_mem _ (List.mem_cons_of_mem _ ma5))) ca5 rfl rfl (part_one rfl ga5)) ?_ | refine Keep.cons rfl (e_loadm (by first | exact m0 | exact List.mem_cons_of_mem _ m0 | exact List.mem_cons_of_mem _ (List.mem_cons_of_mem _ m0) | exact List.mem_cons_of_mem _ (List.mem_cons_of_mem _ (List.mem_cons_of_mem _ m0))) c0 rfl rfl (part_one rfl (h0 1 _ (by omega) g1))) ?_ | refine Keep.cons rfl (e_loadm (by first | exact ma13 | exact List.mem_cons_of_mem _ ma13 | exact List.mem_cons_of_mem _ (List.mem_cons_of_mem _ ma13) | exact List.mem_cons_of_mem _ (List.mem_cons_of_mem _ (List.mem_cons_of_mem _ ma13))) ca13 rfl rfl (part_one rfl ga13)) ?_)) ?_)
              refine OGS.turn1 16 (by kernel_rfl) (by kernel_rfl) (OT.fresh rfl rfl (e_appendE (sz := 1) (bts := 16) (SV.row (r := r15) (e := 9) (cs := [str y]) (sz := 1) (n := 1) (by simp) rfl) (by omega) rfl rfl rfl rfl (by omega) (by omega)) (fun _ => rfl) (fun _ => (by repeat (first | exact Keep.nil | refine Keep.gone rfl ?_))) (fun r16 => ?_))
              refine OGS.turn1 17 (by kernel_rfl) (by kernel_rfl) (OT.fresh rfl rfl (e_new (fun _ => rfl) rfl) (fun _ => rfl) (fun _ => (by repeat (first | exact Keep.nil | refine Keep.gone rfl ?_))) (fun r17 => ?_))
              refine OGS.turn1 18 (by kernel_rfl) (by kernel_rfl) (OT.fresh rfl rfl (e_appendGV [_, _, _, _] (m := 1) (sz := 1) (bts := 24) hg (SV.row (sz := 1) (n := 1) (List.mem_cons_self ..) rfl) (by omega) rfl rfl rfl rfl (by omega) (by omega)) (fun _ => rfl) (fun _ => (by repeat (first | exact Keep.nil | refine Keep.gone rfl ?_))) (fun r18 => ?_))
              refine OGS.pure 19 (by kernel_rfl) rfl rfl (fun _ => rfl) rfl ?_
              refine OGS.nil (by kernel_rfl) ?_
              exact ⟨_, _, _, hfin _ _ _ r16 r18, rfl⟩
          · skip
            refine OGS.turn2 1 15 (by kernel_rfl) (by kernel_rfl) ?_ ?_
            · refine OT.fresh rfl rfl (e_new (fun _ => rfl) rfl) (fun _ => rfl) (fun r1 => (by repeat (first | exact Keep.nil | refine Keep.gone rfl ?_ | refine Keep.cons rfl (e_loadm (by first | exact ma5 | exact List.mem_cons_of_mem _ ma5 | exact List.mem_cons_of_mem _ (List.mem_cons_of_mem _ ma5) | exact List.mem_cons_of_mem _ (List.mem_cons_of_mem _ (List.mem_cons_of_mem _ ma5))) ca5 rfl rfl (part_one rfl ga5)) ?_ | refine Keep.cons rfl (e_loadm (by first | exact m0 | exact List.mem_cons_of_mem _ m0 | exact List.mem_cons_of_mem _ (List.mem_cons_of_mem _ m0) | exact List.mem_cons_of_mem _ (List.mem_cons_of_mem _ (List.mem_cons_of_mem _ m0))) c0 rfl rfl (part_one rfl (h0 1 _ (by omega) g1))) ?_ | refine Keep.cons rfl (e_loadm (by first | exact ma13 | exact List.mem_cons_of_mem _ ma13 | exact List.mem_cons_of_mem _ (List.mem_cons_of_mem _ ma13) | exact List.mem_cons_of_mem _ (List.mem_cons_of_mem _ (List.mem_cons_of_mem _ ma13))) ca13 rfl rfl (part_one rfl ga13)) ?_))) (fun r1 => ?_)
              refine OGS.turn2 6 15 (by kernel_rfl) (by kernel_rfl) ?_ ?_
              · refine OT.fresh rfl rfl (e_appendE (sz := 1) (bts := 16) (hrv.cons) hwp (strs_one _) rfl rfl rfl (by omega) (by omega)) (fun _ => rfl) (fun r6 => (by repeat (first | exact Keep.nil | refine Keep.gone rfl ?_ | refine Keep.cons rfl (e_loadm (by first | exact ma5 | exact List.mem_cons_of_mem _ ma5 | exact List.mem_cons_of_mem _ (List.mem_cons_of_mem _ ma5) | exact List.mem_cons_of_mem _ (List.mem_cons_of_mem _ (List.mem_cons_of_mem _ ma5))) ca5 rfl rfl (part_one rfl ga5)) ?_ | refine Keep.cons rfl (e_loadm (by first | exact m0 | exact List.mem_cons_of_mem _ m0 | exact List.mem_cons_of_mem _ (List.mem_cons_of_mem _ m0) | exact List.mem_cons_of_mem _ (List.mem_cons_of_mem _ (List.mem_cons_of_mem _ m0))) c0 rfl rfl (part_one rfl (h0 1 _ (by omega) g1))) ?_ | refine Keep.cons rfl (e_loadm (by first | exact ma13 | exact List.mem_cons_of_mem _ ma13 | exact List.mem_cons_of_mem _ (List.mem_cons_of_mem _ ma13) | exact List.mem_cons_of_mem _ (List.mem_cons_of_mem _ (List.mem_cons_of_mem _ ma13))) ca13 rfl rfl (part_one rfl ga13)) ?_))) (fun r6 => ?_)
                refine OGS.turn1 15 (by kernel_rfl) (by kernel_rfl) (OT.fresh rfl rfl (e_new (fun _ => rfl) rfl) (fun _ => rfl) (fun r15 => (by repeat (first | exact Keep.nil | refine Keep.gone rfl ?_ | refine Keep.cons rfl (e_loadm (by first | exact ma5 | exact List.mem_cons_of_mem _ ma5 | exact List.mem_cons_of_mem _ (List.mem_cons_of_mem _ ma5) | exact List.mem_cons_of_mem _ (List.mem_cons_of_mem _ (List.mem_cons_of_mem _ ma5))) ca5 rfl rfl (part_one rfl ga5)) ?_ | refine Keep.cons rfl (e_loadm (by first | exact m0 | exact List.mem_cons_of_mem _ m0 | exact List.mem_cons_of_mem _ (List.mem_cons_of_mem _ m0) | exact List.mem_cons_of_mem _ (List.mem_cons_of_mem _ (List.mem_cons_of_mem _ m0))) c0 rfl rfl (part_one rfl (h0 1 _ (by omega) g1))) ?_ | refine Keep.cons rfl (e_loadm (by first | exact ma13 | exact List.mem_cons_of_mem _ ma13 | exact List.mem_cons_of_mem _ (List.mem_cons_of_mem _ ma13) | exact List.mem_cons_of_mem _ (List.mem_cons_of_mem _ (List.mem_cons_of_mem _ ma13))) ca13 rfl rfl (part_one rfl ga13)) ?_))) (fun r15 => ?_))
                refine OGS.turn1 16 (by kernel_rfl) (by kernel_rfl) (OT.fresh rfl rfl (e_appendSV 1 (sz := 1) (bts := 16) (old := strs w) (SV.row (r := r15) (e := 9) (cs := [str y]) (sz := 1) (n := 1) (by simp) rfl) rfl rfl rfl rfl (by omega) (by omega) rfl (cut_all (by rw [strs_len]; omega)) rfl) (fun _ => rfl) (fun _ => (by repeat (first | exact Keep.nil | refine Keep.gone rfl ?_))) (fun r16 => ?_))
                refine OGS.turn1 17 (by kernel_rfl) (by kernel_rfl) (OT.fresh rfl rfl (e_new (fun _ => rfl) rfl) (fun _ => rfl) (fun _ => (by repeat (first | exact Keep.nil | refine Keep.gone rfl ?_))) (fun r17 => ?_))
                refine OGS.turn1 18 (by kernel_rfl) (by kernel_rfl) (OT.fresh rfl rfl (e_appendGV [_, _, _, _] (m := 1) (sz := 1) (bts := 24) hg (SV.row (sz := 1) (n := 1) (List.mem_cons_self ..) rfl) (by omega) rfl rfl rfl rfl (by omega) (by omega)) (fun _ => rfl) (fun _ => (by repeat (first | exact Keep.nil | refine Keep.gone rfl ?_))) (fun r18 => ?_))
                refine OGS.pure 19 (by kernel_rfl) rfl rfl (fun _ => rfl) rfl ?_
                refine OGS.nil (by kernel_rfl) ?_
                exact ⟨_, _, _, hfin _ _ _ r16 r18, rfl⟩
              · refine OT.fresh rfl rfl (e_new (fun _ => rfl) rfl) (fun _ => rfl) (fun r15 => (by repeat (first | exact Keep.nil | refine Keep.gone rfl ?_ | refine Keep.cons rfl (e_loadm (by first | exact ma5 | exact List.mem_cons_of_mem _ ma5 | exact List.mem_cons_of_mem _ (List.mem_cons_of_mem _ ma5) | exact List.mem_cons_of_mem _ (List.mem_cons_of_mem _ (List.mem_cons_of_mem _ ma5))) ca5 rfl rfl (part_one rfl ga5)) ?_ | refine Keep.cons rfl (e_loadm (by first | exact m0 | exact List.mem_cons_of_mem _ m0 | exact List.mem_cons_of_mem _ (List.mem_cons_of_mem _ m0) | exact List.mem_cons_of_mem _ (List.mem_cons_of_mem _ (List.mem_cons_of_mem _ m0))) c0 rfl rfl (part_one rfl (h0 1 _ (by omega) g1))) ?_ | refine Keep.cons rfl (e_loadm (by first | exact ma13 | exact List.mem_cons_of_mem _ ma13 | exact List.mem_cons_of_mem _ (List.mem_cons_of_mem _ ma13) | exact List.mem_cons_of_mem _ (List.mem_cons_of_mem _ (List.mem_cons_of_mem _ ma13))) ca13 rfl rfl (part_one rfl ga13)) ?_))) (fun r15 => ?_)
                refine OGS.turn1 6 (by kernel_rfl) (by kernel_rfl) (OT.fresh rfl rfl (e_appendE (sz := 1) (bts := 16) ((hrv.cons).cons) hwp (strs_one _) rfl rfl rfl (by omega) (by omega)) (fun _ => rfl) (fun r6 => (by repeat (first | exact Keep.nil | refine Keep.gone rfl ?_ | refine Keep.cons rfl (e_loadm (by first | exact ma5 | exact List.mem_cons_of_mem _ ma5 | exact List.mem_cons_of_mem _ (List.mem_cons_of_mem _ ma5) | exact List.mem_cons_of_mem _ (List.mem_cons_of_mem _ (List.mem_cons_of_mem _ ma5))) ca5 rfl rfl (part_one rfl ga5)) ?_ | refine Keep.cons rfl (e_loadm (by first | exact m0 | exact List.mem_cons_of_mem _ m0 | exact List.mem_cons_of_mem _ (List.mem_cons_of_mem _ m0) | exact List.mem_cons_of_mem _ (List.mem_cons_of_mem _ (List.mem_cons_of_mem _ m0))) c0 rfl rfl (part_one rfl (h0 1 _ (by omega) g1))) ?_ | refine Keep.cons rfl (e_loadm (by first | exact ma13 | exact List.mem_cons_of_mem _ ma13 | exact List.mem_cons_of_mem _ (List.mem_cons_of_mem _ ma13) | exact List.mem_cons_of_mem _ (List.mem_cons_of_mem _ (List.mem_cons_of_mem _ ma13))) ca13 rfl rfl (part_one rfl ga13)) ?_))) (fun r6 => ?_))
                refine OGS.turn1 16 (by kernel_rfl) (by kernel_rfl) (OT.fresh rfl rfl (e_appendSV 0 (sz := 1) (bts := 16) (old := strs w) (SV.row (r := r15) (e := 9) (cs := [str y]) (sz := 1) (n := 1) (by simp) rfl) rfl rfl rfl rfl (by omega) (by omega) rfl (cut_all (by rw [strs_len]; omega)) rfl) (fun _ => rfl) (fun _ => (by repeat (first | exact Keep.nil | refine Keep.gone rfl ?_))) (fun r16 => ?_))
                refine OGS.turn1 17 (by kernel_rfl) (by kernel_rfl) (OT.fresh rfl rfl (e_new (fun _ => rfl) rfl) (fun _ => rfl) (fun _ => (by repeat (first | exact Keep.nil | refine Keep.gone rfl ?_))) (fun r17 => ?_))
                refine OGS.turn1 18 (by kernel_rfl) (by kernel_rfl) (OT.fresh rfl rfl (e_appendGV [_, _, _, _] (m := 1) (sz := 1) (bts := 24) hg (SV.row (sz := 1) (n := 1) (List.mem_cons_self ..) rfl) (by omega) rfl rfl rfl rfl (by omega) (by omega)) (fun _ => rfl) (fun _ => (by repeat (first | exact Keep.nil | refine Keep.gone rfl ?_))) (fun r18 => ?_))
                refine OGS.pure 19 (by kernel_rfl) rfl rfl (fun _ => rfl) rfl ?_
                refine OGS.nil (by kernel_rfl) ?_
                exact ⟨_, _, _, hfin _ _ _ r16 r18, rfl⟩
            · refine OT.fresh rfl rfl (e_new (fun _ => rfl) rfl) (fun _ => rfl) (fun r15 => (by repeat (first | exact Keep.nil | refine Keep.gone rfl ?_ | refine Keep.cons rfl (e_loadm (by first | exact ma5 | exact List.mem_cons_of_mem _ ma5 | exact List.mem_cons_of_mem _ (List.mem_cons_of_mem _ ma5) | exact List.mem_cons_of_mem _ (List.mem_cons_of_mem _ (List.mem_cons_of_mem _ ma5))) ca5 rfl rfl (part_one rfl ga5)) ?_ | refine Keep.cons rfl (e_loadm (by first | exact m0 | exact List.mem_cons_of_mem _ m0 | exact List.mem_cons_of_mem _ (List.mem_cons_of_mem _ m0) | exact List.mem_cons_of_mem _ (List.mem_cons_of_mem _ (List.mem_cons_of_mem _ m0))) c0 rfl rfl (part_one rfl (h0 1 _ (by omega) g1))) ?_ | refine Keep.cons rfl (e_loadm (by first | exact ma13 | exact List.mem_cons_of_mem _ ma13 | exact List.mem_cons_of_mem _ (List.mem_cons_of_mem _ ma13) | exact List.mem_cons_of_mem _ (List.mem_cons_of_mem _ (List.mem_cons_of_mem _ ma13))) ca13 rfl rfl (part_one rfl ga13)) ?_))) (fun r15 => ?_)
              refine OGS.turn1 1 (by kernel_rfl) (by kernel_rfl) (OT.fresh rfl rfl (e_new (fun _ => rfl) rfl) (fun _ => rfl) (fun r1 => (by repeat (first | exact Keep.nil | refine Keep.gone rfl ?_ | refine Keep.cons rfl (e_loadm (by first | exact ma5 | exact List.mem_cons_of_mem _ ma5 | exact List.mem_cons_of_mem _ (List.mem_cons_of_mem _ ma5) | exact List.mem_cons_of_mem _ (List.mem_cons_of_mem _ (List.mem_cons_of_mem _ ma5))) ca5 rfl rfl (part_one rfl ga5)) ?_ | refine Keep.cons rfl (e_loadm (by first | exact m0 | exact List.mem_cons_of_mem _ m0 | exact List.mem_cons_of_mem _ (List.mem_cons_of_mem _ m0) | exact List.mem_cons_of_mem _ (List.mem_cons_of_mem _ (List.mem_cons_of_mem _ m0))) c0 rfl rfl (part_one rfl (h0 1 _ (by omega) g1))) ?_ | refine Keep.cons rfl (e_loadm (by first | exact ma13 | exact List.mem_cons_of_mem _ ma13 | exact List.mem_cons_of_mem _ (List.mem_cons_of_mem _ ma13) | exact List.mem_cons_of_mem _ (List.mem_cons_of_mem _ (List.mem_cons_of_mem _ ma13))) ca13 rfl rfl (part_one rfl ga13)) ?_))) (fun r1 => ?_))
              refine OGS.turn1 6 (by kernel_rfl) (by kernel_rfl) (OT.fresh rfl rfl (e_appendE (sz := 1) (bts := 16) ((hrv.cons).cons) hwp (strs_one _) rfl rfl rfl (by omega) (by omega)) (fun _ => rfl) (fun r6 => (by repeat (first | exact Keep.nil | refine Keep.gone rfl ?_ | refine Keep.cons rfl (e_loadm (by first | exact ma5 | exact List.mem_cons_of_mem _ ma5 | exact List.mem_cons_of_mem _ (List.mem_cons_of_mem _ ma5) | exact List.mem_cons_of_mem _ (List.mem_cons_of_mem _ (List.mem_cons_of_mem _ ma5))) ca5 rfl rfl (part_one rfl ga5)) ?_ | refine Keep.cons rfl (e_loadm (by first | exact m0 | exact List.mem_cons_of_mem _ m0 | exact List.mem_cons_of_mem _ (List.mem_cons_of_mem _ m0) | exact List.mem_cons_of_mem _ (List.mem_cons_of_mem _ (List.mem_cons_of_mem _ m0))) c0 rfl rfl (part_one rfl (h0 1 _ (by omega) g1))) ?_ | refine Keep.cons rfl (e_loadm (by first | exact ma13 | exact List.mem_cons_of_mem _ ma13 | exact List.mem_cons_of_mem _ (List.mem_cons_of_mem _ ma13) | exact List.mem_cons_of_mem _ (List.mem_cons_of_mem _ (List.mem_cons_of_mem _ ma13))) ca13 rfl rfl (part_one rfl ga13)) ?_))) (fun r6 => ?_))
              refine OGS.turn1 16 (by kernel_rfl) (by kernel_rfl) (OT.fresh rfl rfl (e_appendSV 0 (sz := 1) (bts := 16) (old := strs w) (SV.row (r := r15) (e := 9) (cs := [str y]) (sz := 1) (n := 1) (by simp) rfl) rfl rfl rfl rfl (by omega) (by omega) rfl (cut_all (by rw [strs_len]; omega)) rfl) (fun _ => rfl) (fun _ => (by repeat (first | exact Keep.nil | refine Keep.gone rfl ?_))) (fun r16 => ?_))
              refine OGS.turn1 17 (by kernel_rfl) (by kernel_rfl) (OT.fresh rfl rfl (e_new (fun _ => rfl) rfl) (fun _ => rfl) (fun _ => (by repeat (first | exact Keep.nil | refine Keep.gone rfl ?_))) (fun r17 => ?_))
              refine OGS.turn1 18 (by kernel_rfl) (by kernel_rfl) (OT.fresh rfl rfl (e_appendGV [_, _, _, _] (m := 1) (sz := 1) (bts := 24) hg (SV.row (sz := 1) (n := 1) (List.mem_cons_self ..) rfl) (by omega) rfl rfl rfl rfl (by omega) (by omega)) (fun _ => rfl) (fun _ => (by repeat (first | exact Keep.nil | refine Keep.gone rfl ?_))) (fun r18 => ?_))
              refine OGS.pure 19 (by kernel_rfl) rfl rfl (fun _ => rfl) rfl ?_
              refine OGS.nil (by kernel_rfl) ?_
              exact ⟨_, _, _, hfin _ _ _ r16 r18, rfl⟩
        rintro a L' ⟨nv, vs, Z, ⟨hg, hvs, hrs, hrc⟩, rfl⟩
        refine yG ?_
        exact ⟨x.2.length - (j + 1), by omega, j + 1, nv, N ++ [w ++ [y]], vs, _, Z, rfl, by omega, by rw [hmsn, hN]; simp, hg, rfl, hvs, ⟨hrs, hrc⟩, rfl⟩
      · have hc3 := nlt_of hc3
        obtain rfl : j = x.2.length := by omega
        rw [List.take_length, ← hst] at hN
        subst hN
        refine LS.exit ?_
        refine yG ?_
        exact ⟨R.length - (k + 1), by omega, k + 1, nv, vs, _, Z, rfl, by omega, hg, rfl, hvs, ⟨hrs, hrc⟩, rfl⟩
    · have hc2 := nlt_of hc2
      obtain rfl : k = R.length := by omega
      rw [List.take_length, ← hRs] at hg hvs
      refine LS.exit ?_
      refine yG ?_
      obtain ⟨Z2, hZ2, hsv2⟩ := gv_own hg
      refine ⟨l.length - (i + 1), by omega, i + 1, nv, Z2 ++ Z, rfl, by omega, ⟨vs, hsv2.mono fun p hp => List.mem_append_left _ hp, hvs.mono fun p hp => List.mem_append_right _ hp⟩, by rw [hZ2]; simp, rfl⟩
  · have hc := nlt_of hc
    obtain rfl : i = l.length := by omega
    rw [List.take_of_length_le (by simp [vlsA]), ref_rows] at hR
    subst hR
    have hrl : (rowsL (vlsA l)).length = cnt (nsA l) := by rw [rows_len, hlens]
    refine LS.exit ?_
    obtain ⟨A, c, rfl⟩ := hrs.form
    refine yG ?_
    rw [hrl]
    refine .inr ⟨hz, A, c, Z, rfl, rfl, rs, by rw [hrl] at hrs ⊢; exact hrs, hrc⟩
end Go.Proofs.Ytllcbjaajffaeaa
