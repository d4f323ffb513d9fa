/- Layer 5: the document's answer: Copy, Bytes, Load. -/
import Derived.Test.YtlifdkihjnnonaaFr
namespace Go.Am
variable {P : Program} {o : Oper} {a : Slots} {L : RL}
/-- To a list that is full: it moves. -/
theorem e_appendF {c : Call} {e : TypeId} {sz bts n m r : Nat} {x : Value} {cs new : List Value} (hs : SV sz L x m new) (hm : 0 < m) (hrow : (r, .cells e cs) ∈ L) (hl : cs.length = n * sz) (hn : n < openCap) (hone : allOne new = true) (ho : o.op = .call c) (hT : appT P c = some (e, sz, bts)) (ha : evs a c.args.toList = some [.slice (some ⟨r, 0, none⟩) n n, x])
    (hsm : (n + m + n) * bts ≤ 1000000000000) (hsm2 : n + m ≤ 1000000000000) :
    ∀ h, Has h L → ∃ r' h₁, opB P a o h = some (.val (.slice (some ⟨r', 0, none⟩) (n + m) openCap) h₁) ∧ Has h₁ ((r', .cells e (cs ++ new)) :: L) := by
  intro h H
  have hn1 := hs.lenB
  have hf : firstB sz m x h = some new := hs.first H
  have hf0 : firstB sz n (.slice (some ⟨r, 0, none⟩) n n) h = some cs := (SV.row (sz := sz) (n := n) (cap := n) hrow hl).first H
  have hone' : (allOne new && (notText x || Nat.beq sz 1)) = true := by rw [hone, hs.notText]; rfl
  unfold appT at hT
  split at hT
  case h_2 => cases hT
  rename_i hcal
  split at hT
  case h_2 => cases hT
  rename_i st xt hst hxt
  split at hT
  case h_2 => cases hT
  rename_i e' xd hu1 hu2
  have hxd : (∀ k, xd = .int k → False) ∧ ∃ i, P.info? e' = some i ∧ zeroFits P e' = true ∧ e' = e ∧ i.size = sz ∧ i.bytes = bts := by
    split at hT
    · cases hT
    · rename_i hno
      split at hT
      case h_2 => cases hT
      rename_i i hi hz
      simp at hT
      obtain ⟨rfl, rfl, rfl⟩ := hT
      exact ⟨fun k hk => hno k hk, i, hi, hz, rfl, rfl, rfl⟩
  obtain ⟨hno, i, hi, hz, rfl, rfl, rfl⟩ := hxd
  obtain ⟨h₁, e₁⟩ := h.new_some (.cells e' (cs ++ new))
  refine ⟨h.next, h₁, ?_, H.new e₁⟩
  have hs' : sizeB P e' = some i.size := by unfold sizeB; rw [hi]
  have b2 : Nat.ble (n + m) 1000000000000 = true := Nat.ble_eq_true_of_le hsm2
  have hgrow : growB P h e' (n + m) cs new = some (.slice (some ⟨h.next, 0, none⟩) (n + m) openCap, h₁) := by
    simp only [growB, join_of, hz, b2, Bool.and_self, newCells, hs', e₁]
  simp only [opB, ho, ha, callOpB, hcal, appendB, hst, hxt, hu1, hu2]
  cases xd <;> first | exact (hno _ rfl).elim | skip
  all_goals
    simp only [hi, hn1, hf, hone']
    have hc : Nat.beq n openCap = false := beq_false (by omega)
    have b0 : Nat.ble (n + m) n = false := by
      cases hb : Nat.ble (n + m) n with
      | false => rfl
      | true => have := of_ble hb; omega
    have b1 : smallB (n + m + n) i.bytes = true := by unfold smallB; exact Nat.ble_eq_true_of_le hsm
    simp only [hc, b0, hf0, b1, hgrow, ret2]
/-- Nothing is appended to a list that is full. -/
theorem e_appendN {c : Call} {e : TypeId} {sz bts n r : Nat} {x : Value} {new : List Value} (hs : SV sz L x 0 new) (hn : n < openCap) (ho : o.op = .call c) (hT : appT P c = some (e, sz, bts)) (ha : evs a c.args.toList = some [.slice (some ⟨r, 0, none⟩) n n, x]) :
    ∀ h, Has h L → opB P a o h = some (.val (.slice (some ⟨r, 0, none⟩) n n) h) := by
  intro h H
  have hn1 := hs.lenB
  have hnew : new = [] := List.eq_nil_of_length_eq_zero (by have := hs.len; omega)
  subst hnew
  have hf : firstB sz 0 x h = some [] := hs.first H
  have hone' : (allOne [] && (notText x || Nat.beq sz 1)) = true := by rw [hs.notText]; rfl
  unfold appT at hT
  split at hT
  case h_2 => cases hT
  rename_i hcal
  split at hT
  case h_2 => cases hT
  rename_i st xt hst hxt
  split at hT
  case h_2 => cases hT
  rename_i e' xd hu1 hu2
  have hxd : (∀ k, xd = .int k → False) ∧ ∃ i, P.info? e' = some i ∧ zeroFits P e' = true ∧ e' = e ∧ i.size = sz ∧ i.bytes = bts := by
    split at hT
    · cases hT
    · rename_i hno
      split at hT
      case h_2 => cases hT
      rename_i i hi hz
      simp at hT
      obtain ⟨rfl, rfl, rfl⟩ := hT
      exact ⟨fun k hk => hno k hk, i, hi, hz, rfl, rfl, rfl⟩
  obtain ⟨hno, i, hi, hz, rfl, rfl, rfl⟩ := hxd
  simp only [opB, ho, ha, callOpB, hcal, appendB, hst, hxt, hu1, hu2]
  cases xd <;> first | exact (hno _ rfl).elim | skip
  all_goals
    simp only [hi, hn1, hf, hone']
    have hc : Nat.beq n openCap = false := beq_false (by omega)
    have b0 : Nat.ble (n + 0) n = true := Nat.ble_eq_true_of_le (by omega)
    simp only [hc, b0, beq_true rfl, ret2]
theorem setL_some : ∀ {L : RL} {i : Nat} {x : Nat × ARow}, i < L.length → setL L i x = some (L.set i x)
  | [], i, x, h => by simp at h
  | y :: L, 0, x, h => rfl
  | y :: L, i + 1, x, h => by
    simp only [setL]
    rw [setL_some (by simpa using h)]
    rfl
/-- A list in a row of its own, full or not. -/
def NV (e : TypeId) (sz : Nat) (v : Value) (n : Nat) (cs : List Value) (X : RL) : Prop :=
  ∃ r, (v = .slice (some ⟨r, 0, none⟩) n n ∨ v = .slice (some ⟨r, 0, none⟩) n openCap) ∧ cs.length = n * sz ∧ X = [(r, .cells e cs)]
theorem NV.sv {e : TypeId} {sz n : Nat} {v : Value} {cs : List Value} {X F : RL} (g : NV e sz v n cs X) : SV sz (X ++ F) v n cs := by
  obtain ⟨r, h, hl, rfl⟩ := g
  rcases h with rfl | rfl <;> exact SV.row (List.mem_cons_self ..) hl
end Go.Am
namespace Go.Proofs.Ytlifdkihjnnonaa
open Go.Am
set_option linter.unusedVariables false
set_option maxRecDepth 20000

section
variable {F : RL} {rx rt c : Nat} {T : List Bool}
theorem rf_sv : SV 1 (rf rx rt c T F) (.slice (some ⟨rt, 0, none⟩) T.length c) T.length (bools T) := SV.row (e := 4) (by simp) (by rw [bools_len]; omega)
theorem rCopy_ct (hT : T.length ≤ 32768) : CS Try.prog 24 [ptr rx] (rf rx rt c T F) fun v L' => ∃ rx' rt' c', v = ptr rx' ∧ L' = rf rx' rt' c' T (rf rx rt c T F) := by
  refine CS.mk (fn := Try.f24) rfl rfl rfl rfl ?_
  repeat refine LS.seq ?_
  refine LS.region rfl ?_
  refine OS.pure rfl (fun _ => rfl) rfl ?_
  refine OS.nil ?_
  repeat refine LS.seq ?_
  refine LS.region rfl ?_
  refine OS.fresh rfl (e_new (fun _ => rfl) rfl) (fun _ => rfl) (fun r0 => ?_)
  refine OS.pure rfl (fun _ => rfl) rfl ?_
  refine OS.pure rfl (fun _ => rfl) rfl ?_
  refine OS.pure rfl (fun _ => rfl) rfl ?_
  refine OS.read rfl (e_load 1 rfl rfl rfl rfl rfl) rfl ?_
  rcases Nat.eq_zero_or_pos T.length with h0 | h0
  · have hnil : T = [] := List.eq_nil_of_length_eq_zero h0
    subst hnil
    refine OS.read rfl (e_appendN (sz := 1) (bts := 1) (n := 0) (rf_sv (F := F) (rx := rx) (c := c)).cons (by decide) rfl rfl rfl) rfl ?_
    refine OS.pure rfl (fun _ => rfl) rfl ?_
    refine OS.fresh rfl (e_new (fun _ => rfl) rfl) (fun _ => rfl) (fun rx2 => ?_)
    refine OS.pure rfl (fun _ => rfl) rfl ?_
    refine OS.nil ?_
    refine LS.ret ⟨_, fun _ _ => rfl, ?_⟩
    exact ⟨rx2, r0, 0, rfl, rfl⟩
  · refine OS.fresh rfl (e_appendF (sz := 1) (bts := 1) (n := 0) (cs := []) (rf_sv (F := F) (rx := rx) (c := c)).cons h0 (List.mem_cons_self ..) rfl (by decide) (bools_one _) rfl rfl rfl (by omega) (by omega)) (fun _ => rfl) (fun r2 => ?_)
    refine OS.pure rfl (fun _ => rfl) rfl ?_
    refine OS.fresh rfl (e_new (fun _ => rfl) rfl) (fun _ => rfl) (fun rx2 => ?_)
    refine OS.pure rfl (fun _ => rfl) rfl ?_
    refine OS.sub (Sub.drop 2 rfl) ?_
    refine OS.nil ?_
    refine LS.ret ⟨_, fun _ _ => rfl, ?_⟩
    refine ⟨rx2, r2, openCap, rfl, ?_⟩
    simp only [rf, Nat.zero_add, List.nil_append]
    rfl
theorem upTo_eq (T : List Bool) (j : Nat) : (byteOf T j).toNat = upTo (fun k => tkn T (8 * j + k)) 8 := by unfold byteOf; rw [toNat_of (upTo_lt _ 8)]
theorem upTo_out {f : Nat → Bool} {m n : Nat} (h : m ≤ n) (hf : ∀ k, m ≤ k → f k = false) : upTo f n = upTo f m := by
  induction n with
  | zero => rw [show m = 0 by omega]
  | succ n ih =>
    by_cases e : m = n + 1
    · rw [e]
    · rw [upTo, hf n (by omega), if_neg (by simp), Nat.add_zero]; exact ih (by omega)
theorem pk_take {T : List Bool} {j : Nat} (h : j < (pk T).length) : (pk T).take (j + 1) = (pk T).take j ++ [byteOf T j] := by
  rw [List.take_add_one]
  congr 1
  unfold pk at h ⊢
  rw [List.getElem?_map, List.getElem?_range (by simpa using h)]; rfl
theorem mb_len {T : List Bool} (hT : T.length ≤ 32768) : (mb T).length ≤ 4106 := by
  unfold mb
  rw [List.length_append, pk_len]
  have : (grp T.length).length ≤ 10 := grp_len (by omega) (by omega)
  omega
set_option maxHeartbeats 1000000 in
theorem rBytes_ct (hT : T.length ≤ 32768) : CS Try.prog 29 [ptr rx] (rf rx rt c T F) fun v L' => GV 5 1 (rf rx rt c T F) v (mb T).length (byteCells (mb T)) L' := by
  have hl := pk_len T
  have hgl : (grp T.length).length ≤ 10 := grp_len (by omega) (by omega)
  have hcnt := cnt_grp (n := T.length) (by omega)
  refine CS.mk (fn := Try.f29) rfl rfl rfl rfl ?_
  repeat refine LS.seq ?_
  refine LS.region rfl ?_
  refine OS.pure rfl (fun _ => rfl) rfl ?_
  refine OS.nil ?_
  repeat refine LS.seq ?_
  refine LS.region rfl ?_
  refine OS.pure rfl (fun _ => rfl) rfl ?_
  refine OS.pure rfl (fun _ => rfl) rfl ?_
  refine OS.pure rfl (fun _ => rfl) rfl ?_
  refine OS.read rfl (e_load 0 rfl rfl rfl rfl rfl) rfl ?_
  refine OS.pure rfl (fun _ => rfl) rfl ?_
  refine OS.call noGo rfl (fun _ => rfl) ((rCount_ct (bs := []) (n := 0) (T.length : Nat) (.inl ⟨rfl, rfl, rfl⟩) (by decide)).mono ?_)
  rintro v L' hg
  rw [hcnt] at hg
  refine ⟨_, rfl, ?_⟩
  refine OS.pure rfl (fun _ => rfl) rfl ?_
  refine OS.nil ?_
  repeat refine LS.seq ?_
  refine LS.region rfl ?_
  refine OS.pure rfl (fun _ => rfl) rfl ?_
  refine OS.nil ?_
  repeat refine LS.seq ?_
  refine LS.block ?_
  refine LS.loopJ [0, 3, 4] (fun q a L' => ∃ i out, q = (pk T).length - i ∧ i ≤ (pk T).length ∧ GV 5 1 (rf rx rt c T F) out ((grp T.length).length + i) (byteCells (grp T.length ++ (pk T).take i)) L' ∧ a = [ptr rx, .chan none, .chan none, out, .int .i64 (i : Nat), .chan none, .chan none, .chan none, .chan none, .chan none, .chan none, .chan none, .chan none, .chan none, .chan none, .chan none, .chan none, .chan none, .chan none, .chan none, .chan none, .chan none, .chan none, .chan none, .chan none, .chan none, .chan none, .chan none, .chan none, .chan none, .chan none, .chan none, .chan none, .chan none, .chan none, .chan none, .chan none, .chan none, .chan none, .chan none, .chan none, .chan none, .chan none, .chan none, .chan none, .chan none, .chan none, .chan none, .chan none, .chan none, .chan none, .chan none, .chan none, .chan none, .chan none, .chan none, .chan none, .chan none, .chan none, .chan none, .chan none]) (n := (pk T).length) rfl
    ⟨0, v, rfl, by omega, by simpa using hg, rfl⟩ ?_
  rintro q a L' ⟨i, out, rfl, hi, hg, rfl⟩
  have hx : (rx, rfRow rt T.length c) ∈ L' := hg.mem _ (by simp)
  have hy : (rt, .cells 4 (bools T)) ∈ L' := hg.mem _ (by simp)
  repeat refine LS.seq ?_
  refine LS.region rfl ?_
  refine OS.pure rfl (fun _ => rfl) rfl ?_
  refine OS.pure rfl (fun _ => rfl) rfl ?_
  refine OS.pure rfl (fun _ => rfl) rfl ?_
  refine OS.pure rfl (fun _ => rfl) rfl ?_
  refine OS.read rfl (e_loadm hx rfl rfl rfl (part_one rfl rfl)) rfl ?_
  refine OS.pure rfl (fun _ => rfl) rfl ?_
  refine OS.pure rfl (e_add (n := 7) rfl rfl rfl (in_i64 (by omega) (by omega))) rfl ?_
  refine OS.pure rfl (e_quo (m := T.length + 7) (n := 8) rfl rfl rfl (by decide) (in_i64 (by omega) (by omega))) rfl ?_
  refine OS.pure rfl (fun _ => rfl) rfl ?_
  refine OS.nil ?_
  repeat refine LS.seq ?_
  refine LS.cond rfl (fun hc => ?_) (fun hc => ?_)
  · have hc := lt_of hc
    have hil : i < (pk T).length := by omega
    refine LS.skip ?_
    repeat refine LS.seq ?_
    refine LS.mid [0, 3, 4] (fun a L' => ∃ out, GV 5 1 (rf rx rt c T F) out ((grp T.length).length + (i + 1)) (byteCells (grp T.length ++ (pk T).take (i + 1))) L' ∧ a = [ptr rx, .chan none, .chan none, out, .int .i64 (i : Nat), .chan none, .chan none, .chan none, .chan none, .chan none, .chan none, .chan none, .chan none, .chan none, .chan none, .chan none, .chan none, .chan none, .chan none, .chan none, .chan none, .chan none, .chan none, .chan none, .chan none, .chan none, .chan none, .chan none, .chan none, .chan none, .chan none, .chan none, .chan none, .chan none, .chan none, .chan none, .chan none, .chan none, .chan none, .chan none, .chan none, .chan none, .chan none, .chan none, .chan none, .chan none, .chan none, .chan none, .chan none, .chan none, .chan none, .chan none, .chan none, .chan none, .chan none, .chan none, .chan none, .chan none, .chan none, .chan none, .chan none]) ?_ ?_
    · repeat refine LS.seq ?_
      refine LS.block ?_
      repeat refine LS.seq ?_
      refine LS.region rfl ?_
      refine OS.pure rfl (fun _ => rfl) rfl ?_
      refine OS.nil ?_
      repeat refine LS.seq ?_
      refine LS.region rfl ?_
      refine OS.pure rfl (fun _ => rfl) rfl ?_
      refine OS.nil ?_
      repeat refine LS.seq ?_
      refine LS.region rfl ?_
      refine OS.pure rfl (fun _ => rfl) rfl ?_
      refine OS.pure rfl (e_mul (m := 8) rfl rfl rfl (in_i64 (by omega) (by omega))) rfl ?_
      refine OS.pure rfl (fun _ => rfl) rfl ?_
      refine OS.nil ?_
      repeat refine LS.seq ?_
      refine LS.mid [0, 3, 4, 5] (fun a L2 => L2 = L' ∧ a = [ptr rx, .chan none, .chan none, out, .int .i64 (i : Nat), .int .i64 ((byteOf T i).toNat : Nat), .chan none, .chan none, .chan none, .chan none, .chan none, .chan none, .chan none, .chan none, .chan none, .chan none, .chan none, .chan none, .chan none, .chan none, .chan none, .chan none, .chan none, .chan none, .chan none, .chan none, .chan none, .chan none, .chan none, .chan none, .chan none, .chan none, .chan none, .chan none, .chan none, .chan none, .chan none, .chan none, .chan none, .chan none, .chan none, .chan none, .chan none, .chan none, .chan none, .chan none, .chan none, .chan none, .chan none, .chan none, .chan none, .chan none, .chan none, .chan none, .chan none, .chan none, .chan none, .chan none, .chan none, .chan none, .chan none]) ?_ ?_
      · repeat refine LS.seq ?_
        refine LS.block ?_
        refine LS.loopJ [0, 3, 4, 5, 6, 7] (fun q a L2 => ∃ k b p e : Nat, q = 8 - k ∧ k ≤ 8 ∧ b = upTo (fun k => tkn T (8 * i + k)) k ∧ p = 2 ^ k ∧ e = 8 * i + k ∧ L2 = L' ∧ a = [ptr rx, .chan none, .chan none, out, .int .i64 (i : Nat), .int .i64 (b : Nat), .int .i64 (p : Nat), .int .i64 (e : Nat), .chan none, .chan none, .chan none, .chan none, .chan none, .chan none, .chan none, .chan none, .chan none, .chan none, .chan none, .chan none, .chan none, .chan none, .chan none, .chan none, .chan none, .chan none, .chan none, .chan none, .chan none, .chan none, .chan none, .chan none, .chan none, .chan none, .chan none, .chan none, .chan none, .chan none, .chan none, .chan none, .chan none, .chan none, .chan none, .chan none, .chan none, .chan none, .chan none, .chan none, .chan none, .chan none, .chan none, .chan none, .chan none, .chan none, .chan none, .chan none, .chan none, .chan none, .chan none, .chan none, .chan none]) (n := 8) rfl
          ⟨0, 0, 1, 8 * i, rfl, by omega, rfl, rfl, rfl, rfl, by rw [show ((8 * i : Nat) : Int) = 8 * (i : Nat) by omega]; rfl⟩ ?_
        rintro q a L2 ⟨k, b, p, e, rfl, hk, hb, hp, he, hLL, rfl⟩
        subst hLL
        have hblt : b < 2 ^ k := by rw [hb]; exact upTo_lt _ k
        have hp8 : 2 ^ k ≤ 2 ^ 8 := Nat.pow_le_pow_right (by omega) hk
        have hstep : upTo (fun k => tkn T (8 * i + k)) (k + 1) = b + if tkn T e then 2 ^ k else 0 := by rw [upTo, ← hb, he]
        by_cases hk8 : k < 8
        · have hb1 : (!ileB (8 * (i : Int) + 8) (e : Int)) = true := by rw [ileB_eq]; simp; omega
          by_cases heT : e < T.length
          · have hb2 : (!ileB (T.length : Int) (e : Int)) = true := by rw [ileB_eq]; simp; omega
            repeat refine LS.seq ?_
            refine LS.region rfl ?_
            refine OS.pure rfl (fun _ => rfl) rfl ?_
            refine OS.pure rfl (fun _ => rfl) rfl ?_
            refine OS.pure rfl (e_mul (m := 8) rfl rfl rfl (in_i64 (by omega) (by omega))) rfl ?_
            refine OS.pure rfl (e_add rfl rfl rfl (in_i64 (by omega) (by omega))) rfl ?_
            refine OS.pure rfl (e_bools (fun _ => rfl) hb1) rfl ?_
            refine OS.pure rfl (fun _ => rfl) rfl ?_
            refine OS.pure rfl (fun _ => rfl) rfl ?_
            refine OS.pure rfl (fun _ => rfl) rfl ?_
            refine OS.pure rfl (fun _ => rfl) rfl ?_
            refine OS.pure rfl (fun _ => rfl) rfl ?_
            refine OS.read rfl (e_loadm hx rfl rfl rfl (part_one rfl rfl)) rfl ?_
            refine OS.pure rfl (fun _ => rfl) rfl ?_
            refine OS.pure rfl (e_bools (fun _ => rfl) hb2) rfl ?_
            refine OS.pure rfl (fun _ => rfl) rfl ?_
            refine OS.nil ?_
            repeat refine LS.seq ?_
            refine LS.cond rfl (fun hc => ?_) (fun hc => by cases hc)
            refine LS.skip ?_
            repeat refine LS.seq ?_
            refine LS.mid [0, 3, 4, 5, 6, 7] (fun a L3 => L3 = L2 ∧ ∃ b2 p2 : Nat, b2 = upTo (fun k => tkn T (8 * i + k)) (k + 1) ∧ p2 = 2 ^ (k + 1) ∧ a = [ptr rx, .chan none, .chan none, out, .int .i64 (i : Nat), .int .i64 (b2 : Nat), .int .i64 (p2 : Nat), .int .i64 (e : Nat), .chan none, .chan none, .chan none, .chan none, .chan none, .chan none, .chan none, .chan none, .chan none, .chan none, .chan none, .chan none, .chan none, .chan none, .chan none, .chan none, .chan none, .chan none, .chan none, .chan none, .chan none, .chan none, .chan none, .chan none, .chan none, .chan none, .chan none, .chan none, .chan none, .chan none, .chan none, .chan none, .chan none, .chan none, .chan none, .chan none, .chan none, .chan none, .chan none, .chan none, .chan none, .chan none, .chan none, .chan none, .chan none, .chan none, .chan none, .chan none, .chan none, .chan none, .chan none, .chan none, .chan none]) ?_ ?_
            · repeat refine LS.seq ?_
              refine LS.block ?_
              repeat refine LS.seq ?_
              refine LS.region rfl ?_
              refine OS.pure rfl (fun _ => rfl) rfl ?_
              refine OS.pure rfl (fun _ => rfl) rfl ?_
              refine OS.pure rfl (fun _ => rfl) rfl ?_
              refine OS.read rfl (e_loadm hx rfl rfl rfl (part_one rfl rfl)) rfl ?_
              refine OS.pure rfl (fun _ => rfl) rfl ?_
              refine OS.pure rfl (e_index (j := e) (sz := 1) rfl rfl rfl rfl rfl heT) rfl ?_
              refine OS.read rfl (e_loadm hy rfl rfl rfl (part_one rfl (bools_at heT))) rfl ?_
              cases ht : tkn T e
              · rw [ht] at hstep
                refine OS.nil ?_
                refine LS.cond rfl (fun hc => by cases hc) (fun hc => ?_)
                refine LS.skip ?_
                repeat refine LS.seq ?_
                refine LS.region rfl ?_
                refine OS.pure rfl (fun _ => rfl) rfl ?_
                refine OS.pure rfl (e_mul rfl rfl rfl (in_i64 (by omega) (by omega))) rfl ?_
                refine OS.pure rfl (fun _ => rfl) rfl ?_
                refine OS.nil ?_
                refine ⟨rfl, b, p * 2, by rw [hstep]; simp, by rw [hp, Nat.pow_succ], ?_⟩
                rw [show ((p * 2 : Nat) : Int) = (p : Nat) * 2 by omega]; rfl
              · rw [ht] at hstep
                refine OS.nil ?_
                refine LS.cond rfl (fun hc => ?_) (fun hc => by cases hc)
                repeat refine LS.seq ?_
                refine LS.region rfl ?_
                refine OS.pure rfl (fun _ => rfl) rfl ?_
                refine OS.pure rfl (fun _ => rfl) rfl ?_
                refine OS.pure rfl (e_add rfl rfl rfl (in_i64 (by omega) (by omega))) rfl ?_
                refine OS.pure rfl (fun _ => rfl) rfl ?_
                refine OS.nil ?_
                repeat refine LS.seq ?_
                refine LS.region rfl ?_
                refine OS.pure rfl (fun _ => rfl) rfl ?_
                refine OS.pure rfl (e_mul rfl rfl rfl (in_i64 (by omega) (by omega))) rfl ?_
                refine OS.pure rfl (fun _ => rfl) rfl ?_
                refine OS.nil ?_
                refine ⟨rfl, b + p, p * 2, by rw [hstep, hp]; simp, by rw [hp, Nat.pow_succ], ?_⟩
                rw [show ((p * 2 : Nat) : Int) = (p : Nat) * 2 by omega, show ((b + p : Nat) : Int) = (b : Nat) + (p : Nat) by omega]; rfl
            rintro a L3 ⟨hLL, b2, p2, hb3, hp3, rfl⟩
            subst hLL
            repeat refine LS.seq ?_
            refine LS.region rfl ?_
            refine OS.pure rfl (fun _ => rfl) rfl ?_
            refine OS.pure rfl (e_add rfl rfl rfl (in_i64 (by omega) (by omega))) rfl ?_
            refine OS.pure rfl (fun _ => rfl) rfl ?_
            refine OS.nil ?_
            refine ⟨8 - (k + 1), by omega, k + 1, b2, p2, e + 1, rfl, by omega, hb3, hp3, by omega, rfl, ?_⟩
            rw [show ((e + 1 : Nat) : Int) = (e : Nat) + 1 by omega]; rfl
          · have hb2 : (!ileB (T.length : Int) (e : Int)) = false := by rw [ileB_eq]; simp; omega
            repeat refine LS.seq ?_
            refine LS.region rfl ?_
            refine OS.pure rfl (fun _ => rfl) rfl ?_
            refine OS.pure rfl (fun _ => rfl) rfl ?_
            refine OS.pure rfl (e_mul (m := 8) rfl rfl rfl (in_i64 (by omega) (by omega))) rfl ?_
            refine OS.pure rfl (e_add rfl rfl rfl (in_i64 (by omega) (by omega))) rfl ?_
            refine OS.pure rfl (e_bools (fun _ => rfl) hb1) rfl ?_
            refine OS.pure rfl (fun _ => rfl) rfl ?_
            refine OS.pure rfl (fun _ => rfl) rfl ?_
            refine OS.pure rfl (fun _ => rfl) rfl ?_
            refine OS.pure rfl (fun _ => rfl) rfl ?_
            refine OS.pure rfl (fun _ => rfl) rfl ?_
            refine OS.read rfl (e_loadm hx rfl rfl rfl (part_one rfl rfl)) rfl ?_
            refine OS.pure rfl (fun _ => rfl) rfl ?_
            refine OS.pure rfl (e_bools (fun _ => rfl) hb2) rfl ?_
            refine OS.pure rfl (fun _ => rfl) rfl ?_
            refine OS.nil ?_
            repeat refine LS.seq ?_
            refine LS.cond rfl (fun hc => by cases hc) (fun hc => ?_)
            refine LS.exit ?_
            refine ⟨rfl, ?_⟩
            rw [upTo_eq, upTo_out hk (fun k2 h2 => tkn_out (by omega)), ← hb]
            rfl
        · have hb1 : (!ileB (8 * (i : Int) + 8) (e : Int)) = false := by rw [ileB_eq]; simp; omega
          have hk88 : k = 8 := by omega
          repeat refine LS.seq ?_
          refine LS.region rfl ?_
          refine OS.pure rfl (fun _ => rfl) rfl ?_
          refine OS.pure rfl (fun _ => rfl) rfl ?_
          refine OS.pure rfl (e_mul (m := 8) rfl rfl rfl (in_i64 (by omega) (by omega))) rfl ?_
          refine OS.pure rfl (e_add rfl rfl rfl (in_i64 (by omega) (by omega))) rfl ?_
          refine OS.pure rfl (e_bools (fun _ => rfl) hb1) rfl ?_
          refine OS.pure rfl (fun _ => rfl) rfl ?_
          refine OS.skip rfl rfl ?_
          refine OS.skip rfl rfl ?_
          refine OS.skip rfl rfl ?_
          refine OS.skip rfl rfl ?_
          refine OS.skip rfl rfl ?_
          refine OS.skip rfl rfl ?_
          refine OS.skip rfl rfl ?_
          refine OS.pure rfl (fun _ => rfl) rfl ?_
          refine OS.nil ?_
          repeat refine LS.seq ?_
          refine LS.cond rfl (fun hc => by cases hc) (fun hc => ?_)
          refine LS.exit ?_
          have hb8 : (byteOf T i).toNat = b := by rw [upTo_eq, hb, hk88]
          refine ⟨rfl, ?_⟩
          rw [hb8]
          rfl
      rintro a L2 ⟨hLL, rfl⟩
      subst hLL
      repeat refine LS.seq ?_
      refine LS.region rfl ?_
      refine OS.pure rfl (fun _ => rfl) rfl ?_
      refine OS.pure rfl (fun _ => rfl) rfl ?_
      refine OS.pure rfl (e_conv (n := ((byteOf T i).toNat : Nat)) rfl rfl rfl rfl (in_u8 (by omega) (by have := UInt8.toNat_lt (byteOf T i); omega))) rfl ?_
      refine OS.fresh rfl (e_new (fun _ => rfl) rfl) (fun _ => rfl) (fun rn => ?_)
      refine OS.fresh rfl (e_appendGV [_] (m := 1) (sz := 1) (bts := 1) hg (SV.row (sz := 1) (n := 1) (List.mem_cons_self ..) rfl) (by omega) rfl rfl rfl rfl (by omega) (by omega)) (fun _ => rfl) (fun r2 => ?_)
      refine OS.pure rfl (fun _ => rfl) rfl ?_
      refine OS.sub (Sub.drop 1 rfl) ?_
      refine OS.nil ?_
      refine ⟨_, ?_, rfl⟩
      rw [pk_take hil, ← List.append_assoc]
      rw [byteCells_append (grp T.length ++ (pk T).take i)]
      exact GV.of (by rw [List.length_append, byteCells_len, byteCells_len]; simp; omega)
    rintro a L2 ⟨out2, hg2, rfl⟩
    repeat refine LS.seq ?_
    refine LS.region rfl ?_
    refine OS.pure rfl (fun _ => rfl) rfl ?_
    refine OS.pure rfl (e_add rfl rfl rfl (in_i64 (by omega) (by omega))) rfl ?_
    refine OS.pure rfl (fun _ => rfl) rfl ?_
    refine OS.nil ?_
    exact ⟨(pk T).length - (i + 1), by omega, i + 1, out2, rfl, by omega, hg2, rfl⟩
  · have hc := nlt_of hc
    have hil : i = (pk T).length := by omega
    subst hil
    rw [List.take_of_length_le (Nat.le_refl _)] at hg
    refine LS.exit ?_
    repeat refine LS.seq ?_
    refine LS.region rfl ?_
    refine OS.pure rfl (fun _ => rfl) rfl ?_
    refine OS.pure rfl (fun _ => rfl) rfl ?_
    refine OS.nil ?_
    refine LS.ret ⟨_, fun _ _ => rfl, ?_⟩
    unfold mb
    rw [List.length_append]
    exact hg
end
end Go.Proofs.Ytlifdkihjnnonaa
