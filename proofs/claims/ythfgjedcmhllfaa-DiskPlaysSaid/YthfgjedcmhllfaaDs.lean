/- Layer 3: DiskPlays. -/
import Derived.Test.YthfgjedcmhllfaaDr
import Derived.Test.YthfgjedcmhllfaaOpenS
namespace Go.Am
variable {X Y G A B : RL} {x x' : Nat × ARow}
theorem Sub.outs : Sub (x :: (X ++ (Y ++ G))) (Y ++ x :: (X ++ G)) := ⟨[], by
  rw [List.append_nil]
  exact List.perm_middle.trans ((List.perm_append_comm_assoc Y X G).cons x)⟩
theorem Sub.ins : Sub (Y ++ x :: (X ++ G)) (x :: (X ++ (Y ++ G))) := ⟨[], by
  rw [List.append_nil]
  exact (List.perm_middle.trans ((List.perm_append_comm_assoc Y X G).cons x)).symm⟩
theorem Sub.forget : Sub (x' :: (Y ++ G)) (x' :: (Y ++ x :: (X ++ G))) := ⟨x :: X, by
  rw [List.cons_append, List.append_assoc]
  refine ((List.perm_append_left_iff Y).2 ?_).cons x'
  exact (List.perm_append_comm (l₁ := x :: X) (l₂ := G))⟩
theorem Sub.cons (s : Sub A B) : Sub (x :: A) (x :: B) := by
  obtain ⟨M, hM⟩ := s
  exact ⟨M, hM.cons x⟩
variable {a b c d e : Nat × ARow}
theorem Sub.out3 : Sub (x :: (X ++ (a :: b :: c :: G))) (a :: b :: c :: x :: (X ++ G)) := Sub.outs (Y := [a, b, c])
theorem Sub.in3 : Sub (a :: b :: c :: x :: (X ++ G)) (x :: (X ++ (a :: b :: c :: G))) := Sub.ins (Y := [a, b, c])
theorem Sub.out4 : Sub (x :: (X ++ (a :: b :: c :: d :: G))) (a :: b :: c :: d :: x :: (X ++ G)) := Sub.outs (Y := [a, b, c, d])
theorem Sub.in4 : Sub (a :: b :: c :: d :: x :: (X ++ G)) (x :: (X ++ (a :: b :: c :: d :: G))) := Sub.ins (Y := [a, b, c, d])
theorem Sub.out5 : Sub (x :: (X ++ (a :: b :: c :: d :: e :: G))) (a :: b :: c :: d :: e :: x :: (X ++ G)) := Sub.outs (Y := [a, b, c, d, e])
theorem Sub.in5 : Sub (a :: b :: c :: d :: e :: x :: (X ++ G)) (x :: (X ++ (a :: b :: c :: d :: e :: G))) := Sub.ins (Y := [a, b, c, d, e])
theorem ne_same (n : Int) : (!ieqB n n) = false := by rw [ieqB_eq]; simp
end Go.Am
namespace Go.Proofs.Ythfgjedcmhllfaa
open Go.Am
set_option linter.unusedVariables false
set_option maxRecDepth 20000

/-- The program's disk and the document's say the same, behind so many steps. -/
structure Sim (s : Dk) (old : Nat) (ws : Ws) (i : Nat) : Prop where
  ok : s.ok
  sum : old + s.wr = ws.length
  len : ws.length ≤ i
  each : ∀ w ∈ ws, w.2.length = 256
  same : ∀ j, j < s.n → blk s.D j = lastW ws j
theorem Sim.succ {s : Dk} {old i : Nat} {ws : Ws} (h : Sim s old ws i) : Sim s old ws (i + 1) := ⟨h.ok, h.sum, Nat.le_succ_of_le h.len, h.each, h.same⟩
theorem Sim.write {s : Dk} {old i : Nat} {ws : Ws} (h : Sim s old ws i) (hi : i ≤ 80) (a : Int) (bs : List UInt8) : Sim (wrD s a bs).2 old (wsD s a bs ws) (i + 1) := by
  have hw : s.wr < 1000000 := by have := h.sum; have := h.len; omega
  have hok := wrD_ok (i := a) (bs := bs) h.ok hw
  revert hok
  unfold wsD wrD
  split
  · intro _; exact h.succ
  split
  · intro _; exact h.succ
  rename_i hq
  have hq : 0 ≤ a ∧ a < s.n ∧ bs.length = 256 := Classical.not_not.1 hq
  split
  · intro hok; exact ⟨hok, h.sum, Nat.le_succ_of_le h.len, h.each, h.same⟩
  intro hok
  have hj : a.toNat < s.n := by have := hq.1; have := hq.2.1; omega
  rw [if_pos (show ((0 : Int) = 0) from rfl)]
  refine ⟨hok, ?_, ?_, ?_, ?_⟩
  · show old + (s.wr + 1) = _
    rw [List.length_append]
    have := h.sum
    simp; omega
  · rw [List.length_append]; have := h.len; simp; omega
  · intro w hw
    rcases List.mem_append.1 hw with hw | hw
    · exact h.each w hw
    · rw [List.mem_singleton.1 hw]; exact hq.2.2
  · intro j hjn
    show blk (put s.D a.toNat bs) j = _
    rw [lastW_append]
    by_cases e : a.toNat = j
    · rw [if_pos e, ← e]; exact blk_put_same h.ok.1 hj hq.2.2
    · rw [if_neg e, blk_put_ne h.ok.1 hj hq.2.2 (fun h => e h.symm)]; exact h.same j hjn
theorem Sim.cut {s : Dk} {old i : Nat} {ws : Ws} (h : Sim s old ws i) (m : Int) (hm : m ≤ 9223372036854775807) : Sim (cutD s m).2 old ws i := by
  obtain ⟨e1, e2, e3⟩ := cutD_wr (s := s) (m := m)
  exact ⟨cutD_ok h.ok hm, by rw [e1]; exact h.sum, h.len, h.each, by rw [e2, e3]; exact h.same⟩
theorem Sim.reopen {s : Dk} {old i : Nat} {ws : Ws} (h : Sim s old ws i) : Sim ⟨s.n, s.D, 0, false, 0, false⟩ ws.length ws i :=
  ⟨⟨h.ok.1, h.ok.2.1, h.ok.2.2.1, Nat.zero_le _, Nat.zero_le _⟩, rfl, h.len, h.each, h.same⟩

theorem steps_cut {ts : List Sp} {i : Nat} {t : Sp} (h : ts[i]? = some t) : Go.Am.cut (ts.flatMap Sp.cells) (i * 4) 4 = some t.cells := by
  have hi : i < ts.length := (List.getElem?_eq_some_iff.1 h).1
  have hl : (ts.flatMap Sp.cells).length = ts.length * 4 := sp_len ts
  rw [cut_of (by omega)]
  congr 1
  apply List.ext_getElem?
  intro j
  rw [List.getElem?_take]
  split
  · rename_i hj
    rw [List.getElem?_drop]
    exact sp_at ts i j t h hj
  · rename_i hj
    rw [List.getElem?_eq_none (by simp [Sp.cells]; omega)]
theorem lay_u8 {cs : List UInt8} {j : Nat} (c : UInt8) (hj : j < cs.length) : lay (byteCells cs) (0 + j * 1) [.int .u8 (c.toNat : Nat)] = some (byteCells (cs.set j c)) := by
  rw [show 0 + j * 1 = j by omega, lay_one (by rw [byteCells_len]; exact hj)]
  simp [byteCells, List.map_set]
theorem u8_cell {cs : List UInt8} {j : Nat} (hj : j < cs.length) : (byteCells cs)[0 + j * 1]? = some (.int .u8 (cs[j].toNat : Nat)) := by
  rw [show 0 + j * 1 = j by omega]; simp [byteCells, hj]

set_option maxHeartbeats 1000000 in
theorem plays_ct {L : RL} {l : Value} {m : Nat} {ts : List Sp} (n : Int) (hl : SV 4 L l m (ts.flatMap Sp.cells)) (hok : ∀ t ∈ ts, t.ok) (hm : m ≤ 9223372036854775807) :
    CS Try.prog 4 [.int .i64 n, l] L fun v' _ => v' = .bool true := by
  have hlen : ts.length = m := by have := hl.len; rw [sp_len] at this; omega
  refine CS.mk (fn := Try.f4) rfl rfl rfl rfl ?_
  repeat refine LS.seq ?_
  refine LS.region rfl ?_
  refine OS.pure rfl (fun _ => rfl) rfl ?_
  refine OS.nil ?_
  by_cases hm2 : 80 < m
  · have hb : (!ileB (m : Int) 80) = true := by rw [ileB_eq]; simp; omega
    repeat refine LS.seq ?_
    refine LS.region rfl ?_
    refine OS.pure rfl (fun _ => rfl) rfl ?_
    refine OS.pure rfl (e_len hl rfl rfl rfl rfl rfl) rfl ?_
    refine OS.pure rfl (e_is (fun _ => rfl) (congrArg Value.bool hb)) rfl ?_
    refine OS.nil ?_
    refine LS.cond rfl (fun hc => ?_) (fun hc => by cases hc)
    repeat refine LS.seq ?_
    refine LS.region rfl ?_
    refine OS.pure rfl (fun _ => rfl) rfl ?_
    refine OS.nil ?_
    refine LS.ret ⟨_, fun _ _ => rfl, ?_⟩
    rfl
  have hb : (!ileB (m : Int) 80) = false := by rw [ileB_eq]; simp; omega
  repeat refine LS.seq ?_
  refine LS.region rfl ?_
  refine OS.pure rfl (fun _ => rfl) rfl ?_
  refine OS.pure rfl (e_len hl rfl rfl rfl rfl rfl) rfl ?_
  refine OS.pure rfl (e_is (fun _ => rfl) (congrArg Value.bool hb)) rfl ?_
  refine OS.nil ?_
  refine LS.cond rfl (fun hc => by cases hc) (fun hc => ?_)
  refine LS.skip ?_
  by_cases hn : 512 ≤ n ∧ n ≤ 32768
  case neg =>
    have hN : CS Try.prog 10 [.int .i64 n] L fun v L' => v = .tuple #[.pointer none, .int .i64 1] ∧ L' = L := by
      by_cases h : n < 512
      · exact New_small n h
      · exact New_large n (by omega)
    have hR : CS Try.prog 20 [.int .i64 n] L fun v L' => v = .tuple #[.pointer none, .int .i64 1] ∧ L' = L := by
      by_cases h : n < 512
      · exact rNew_small n h
      · exact rNew_large n (by omega)
    repeat refine LS.seq ?_
    refine LS.region rfl ?_
    refine OS.pure rfl (fun _ => rfl) rfl ?_
    refine OS.call noGo rfl (fun _ => rfl) ((hN).mono ?_)
    rintro v L' ⟨rfl, hLL⟩
    have hLL := hLL.symm
    subst hLL
    refine ⟨_, rfl, ?_⟩
    refine OS.pure rfl (fun _ => rfl) rfl ?_
    refine OS.pure rfl (fun _ => rfl) rfl ?_
    refine OS.pure rfl (fun _ => rfl) rfl ?_
    refine OS.pure rfl (fun _ => rfl) rfl ?_
    refine OS.pure rfl (fun _ => rfl) rfl ?_
    refine OS.nil ?_
    repeat refine LS.seq ?_
    refine LS.region rfl ?_
    refine OS.pure rfl (fun _ => rfl) rfl ?_
    refine OS.call noGo rfl (fun _ => rfl) ((hR).mono ?_)
    rintro v L' ⟨rfl, hLL⟩
    have hLL := hLL.symm
    subst hLL
    refine ⟨_, rfl, ?_⟩
    refine OS.pure rfl (fun _ => rfl) rfl ?_
    refine OS.pure rfl (fun _ => rfl) rfl ?_
    refine OS.pure rfl (fun _ => rfl) rfl ?_
    refine OS.pure rfl (fun _ => rfl) rfl ?_
    refine OS.pure rfl (fun _ => rfl) rfl ?_
    refine OS.nil ?_
    repeat refine LS.seq ?_
    refine LS.region rfl ?_
    refine OS.pure rfl (fun _ => rfl) rfl ?_
    refine OS.pure rfl (fun _ => rfl) rfl ?_
    refine OS.pure rfl (fun _ => rfl) rfl ?_
    refine OS.pure rfl (fun _ => rfl) rfl ?_
    refine OS.pure rfl (fun _ => rfl) rfl ?_
    refine OS.pure rfl (fun _ => rfl) rfl ?_
    refine OS.pure rfl (fun _ => rfl) rfl ?_
    refine OS.nil ?_
    refine LS.cond rfl (fun hc => ?_) (fun hc => by cases hc)
    repeat refine LS.seq ?_
    refine LS.region rfl ?_
    refine OS.pure rfl (fun _ => rfl) rfl ?_
    refine OS.pure rfl (fun _ => rfl) rfl ?_
    refine OS.pure rfl (fun _ => rfl) rfl ?_
    refine OS.pure rfl (fun _ => rfl) rfl ?_
    refine OS.pure rfl (fun _ => rfl) rfl ?_
    refine OS.pure rfl (fun _ => rfl) rfl ?_
    refine OS.pure rfl (fun _ => rfl) rfl ?_
    refine OS.pure rfl (fun _ => rfl) rfl ?_
    refine OS.nil ?_
    refine LS.ret ⟨_, fun _ _ => rfl, ?_⟩
    rfl
  obtain ⟨n, rfl⟩ := Int.eq_ofNat_of_zero_le (show 0 ≤ n by omega)
  have hD0 : (List.replicate (n * 256) (0 : UInt8)).length = n * 256 := List.length_replicate
  have hz0 : ∀ j, j < n → blk (List.replicate (n * 256) (0 : UInt8)) j = List.replicate 256 0 := fun j hj => blk_zeros hj
  repeat refine LS.seq ?_
  refine LS.region rfl ?_
  refine OS.pure rfl (fun _ => rfl) rfl ?_
  refine OS.call noGo rfl (fun _ => rfl) ((New_ct n (by omega) (by omega)).mono ?_)
  rintro v L' ⟨rd0, rb0, rfl, rfl⟩
  generalize List.replicate (n * 256) (0 : UInt8) = D0 at hD0 hz0
  refine ⟨_, rfl, ?_⟩
  refine OS.pure rfl (fun _ => rfl) rfl ?_
  refine OS.pure rfl (fun _ => rfl) rfl ?_
  refine OS.pure rfl (fun _ => rfl) rfl ?_
  refine OS.pure rfl (fun _ => rfl) rfl ?_
  refine OS.pure rfl (fun _ => rfl) rfl ?_
  refine OS.nil ?_
  repeat refine LS.seq ?_
  refine LS.region rfl ?_
  refine OS.pure rfl (fun _ => rfl) rfl ?_
  refine OS.call noGo rfl (fun _ => rfl) ((rNew_ct n (by omega) (by omega) D0).mono ?_)
  rintro v L' ⟨rx0, rfl, rfl⟩
  refine ⟨_, rfl, ?_⟩
  refine OS.sub (Sub.pulls [2, 2] rfl) ?_
  refine OS.pure rfl (fun _ => rfl) rfl ?_
  refine OS.pure rfl (fun _ => rfl) rfl ?_
  refine OS.pure rfl (fun _ => rfl) rfl ?_
  refine OS.pure rfl (fun _ => rfl) rfl ?_
  refine OS.pure rfl (fun _ => rfl) rfl ?_
  refine OS.nil ?_
  repeat refine LS.seq ?_
  refine LS.region rfl ?_
  refine OS.pure rfl (fun _ => rfl) rfl ?_
  refine OS.pure rfl (fun _ => rfl) rfl ?_
  refine OS.pure rfl (fun _ => rfl) rfl ?_
  refine OS.pure rfl (fun _ => rfl) rfl ?_
  refine OS.pure rfl (fun _ => rfl) rfl ?_
  refine OS.pure rfl (fun _ => rfl) rfl ?_
  refine OS.pure rfl (fun _ => rfl) rfl ?_
  refine OS.nil ?_
  refine LS.cond rfl (fun hc => by cases hc) (fun hc => ?_)
  refine LS.skip ?_
  repeat refine LS.seq ?_
  refine LS.region rfl ?_
  refine OS.pure rfl (fun _ => rfl) rfl ?_
  refine OS.nil ?_
  repeat refine LS.seq ?_
  refine LS.block ?_
  refine LS.loopJ [1, 4, 5, 7, 9] (fun q a L' => ∃ (i rd rb rx old : Nat) (lv : Value) (X : RL) (s : Dk) (ws : Ws), q = m - i ∧ i ≤ m ∧ WL lv ws X ∧ Sim s old ws i ∧ L' = dk rd rb s ((rx, rfRow lv s old) :: (X ++ L)) ∧
    a = [.chan none, l, .chan none, .chan none, .bool false, ptr rd, .chan none, ptr rx, .chan none, .int .i64 (i : Nat), .chan none, .chan none, .chan none, .chan none, .chan none, .chan none, .chan none, .chan none, .chan none, .chan none, .chan none, .chan none, .chan none, .chan none, .chan none, .chan none, .chan none, .chan none, .chan none, .chan none, .chan none, .chan none, .chan none, .chan none, .chan none, .chan none, .chan none, .chan none, .chan none, .chan none, .chan none, .chan none, .chan none, .chan none, .chan none, .chan none, .chan none, .chan none, .chan none, .chan none, .chan none, .chan none, .chan none, .chan none, .chan none, .chan none, .chan none, .chan none, .chan none, .chan none, .chan none, .chan none, .chan none, .chan none, .chan none, .chan none, .chan none, .chan none, .chan none, .chan none, .chan none, .chan none, .chan none, .chan none, .chan none, .chan none, .chan none, .chan none, .chan none, .chan none, .chan none, .chan none, .chan none, .chan none, .chan none, .chan none, .chan none, .chan none, .chan none, .chan none, .chan none, .chan none, .chan none, .chan none, .chan none, .chan none, .chan none, .chan none, .chan none, .chan none, .chan none, .chan none, .chan none, .chan none, .chan none, .chan none, .chan none, .chan none, .chan none, .chan none, .chan none, .chan none, .chan none, .chan none, .chan none, .chan none, .chan none, .chan none, .chan none, .chan none, .chan none, .chan none, .chan none, .chan none, .chan none, .chan none, .chan none, .chan none, .chan none, .chan none, .chan none, .chan none, .chan none, .chan none, .chan none, .chan none, .chan none, .chan none, .chan none, .chan none, .chan none, .chan none, .chan none, .chan none, .chan none, .chan none, .chan none, .chan none, .chan none, .chan none, .chan none, .chan none, .chan none, .chan none, .chan none, .chan none, .chan none, .chan none, .chan none, .chan none, .chan none, .chan none, .chan none, .chan none, .chan none, .chan none, .chan none, .chan none, .chan none, .chan none, .chan none, .chan none, .chan none, .chan none, .chan none, .chan none, .chan none, .chan none, .chan none, .chan none, .chan none, .chan none, .chan none, .chan none, .chan none, .chan none, .chan none, .chan none, .chan none, .chan none, .chan none, .chan none, .chan none, .chan none, .chan none, .chan none, .chan none, .chan none, .chan none, .chan none, .chan none, .chan none, .chan none, .chan none, .chan none, .chan none, .chan none, .chan none, .chan none, .chan none, .chan none, .chan none, .chan none, .chan none, .chan none, .chan none, .chan none, .chan none, .chan none, .chan none, .chan none, .chan none, .chan none, .chan none, .chan none, .chan none, .chan none, .chan none, .chan none, .chan none, .chan none, .chan none]) (n := m) rfl
    ⟨0, rd0, rb0, rx0, 0, _, [], ⟨n, D0, 0, false, 0, false⟩, [], rfl, by omega, LV.nil, ⟨ok_of hD0 (by omega) (by omega) (by decide) (by decide), rfl, Nat.le_refl _, fun w hw => (by cases hw), hz0⟩, rfl, rfl⟩ ?_
  rintro q a L' ⟨i, rd, rb, rx, old, lv, X, s, ws, rfl, hi, hX, hS, rfl, rfl⟩
  repeat refine LS.seq ?_
  refine LS.region rfl ?_
  refine OS.pure rfl (fun _ => rfl) rfl ?_
  refine OS.pure rfl (fun _ => rfl) rfl ?_
  refine OS.pure rfl (e_len hl rfl rfl rfl rfl rfl) rfl ?_
  refine OS.pure rfl (fun _ => rfl) rfl ?_
  refine OS.nil ?_
  repeat refine LS.seq ?_
  refine LS.cond rfl (fun hc => ?_) (fun hc => ?_)
  case _ =>
    have hc : (i : Int) < m := lt_of hc
    have hin : i < m := by omega
    have ht : ts[i]? = some ts[i] := List.getElem?_eq_getElem (by omega)
    have hto := hok ts[i] (List.getElem_mem (by omega))
    generalize ts[i] = t at ht hto
    obtain ⟨k, at_, ⟨⟨bs⟩⟩, b⟩ := t
    obtain ⟨hkb, hab, hsb⟩ := hto
    have hsb : bs.length ≤ 140737488351232 := hsb
    simp only at hkb hab
    refine LS.skip ?_
    repeat refine LS.seq ?_
    refine LS.block ?_
    repeat refine LS.seq ?_
    refine LS.region rfl ?_
    refine OS.pure rfl (fun _ => rfl) rfl ?_
    refine OS.pure rfl (fun _ => rfl) rfl ?_
    refine OS.at (j := i) (hl.mono fun p hp => List.mem_cons_of_mem _ (List.mem_cons_of_mem _ (List.mem_cons_of_mem _ (List.mem_append_right _ hp)))) hin rfl rfl rfl rfl rfl rfl (fun r0 o0 row0 cs0 m0 c0 g0 k0 => ?_)
    refine ⟨_, rfl, ?_⟩
    refine OS.read rfl (e_loadm m0 c0 rfl rfl (part_agg rfl rfl (k0 _ (steps_cut ht)))) rfl ?_
    refine OS.fresh rfl (e_new (fun _ => rfl) rfl) (fun _ => rfl) (fun rt => ?_)
    refine OS.write rfl (e_store 0 rfl rfl rfl rfl rfl rfl rfl rfl) rfl ?_
    refine OS.nil ?_
    repeat refine LS.seq ?_
    refine LS.region rfl ?_
    refine OS.pure rfl (fun _ => rfl) rfl ?_
    refine OS.read rfl (e_load 0 rfl rfl rfl rfl rfl) rfl ?_
    refine OS.nil ?_
    refine LS.mid [1, 4, 5, 7, 9, 10] (fun a L2 => ∃ (rd rb rx old : Nat) (lv : Value) (X : RL) (s : Dk) (ws : Ws), WL lv ws X ∧ Sim s old ws (i + 1) ∧ L2 = (rt, .cells 41 [.int .i64 k, .int .i64 at_, .string ⟨⟨bs⟩⟩, .bool b]) :: dk rd rb s ((rx, rfRow lv s old) :: (X ++ L)) ∧
      a = [.chan none, l, .chan none, .chan none, .bool false, ptr rd, .chan none, ptr rx, .chan none, .int .i64 (i : Nat), ptr rt, .chan none, .chan none, .chan none, .chan none, .chan none, .chan none, .chan none, .chan none, .chan none, .chan none, .chan none, .chan none, .chan none, .chan none, .chan none, .chan none, .chan none, .chan none, .chan none, .chan none, .chan none, .chan none, .chan none, .chan none, .chan none, .chan none, .chan none, .chan none, .chan none, .chan none, .chan none, .chan none, .chan none, .chan none, .chan none, .chan none, .chan none, .chan none, .chan none, .chan none, .chan none, .chan none, .chan none, .chan none, .chan none, .chan none, .chan none, .chan none, .chan none, .chan none, .chan none, .chan none, .chan none, .chan none, .chan none, .chan none, .chan none, .chan none, .chan none, .chan none, .chan none, .chan none, .chan none, .chan none, .chan none, .chan none, .chan none, .chan none, .chan none, .chan none, .chan none, .chan none, .chan none, .chan none, .chan none, .chan none, .chan none, .chan none, .chan none, .chan none, .chan none, .chan none, .chan none, .chan none, .chan none, .chan none, .chan none, .chan none, .chan none, .chan none, .chan none, .chan none, .chan none, .chan none, .chan none, .chan none, .chan none, .chan none, .chan none, .chan none, .chan none, .chan none, .chan none, .chan none, .chan none, .chan none, .chan none, .chan none, .chan none, .chan none, .chan none, .chan none, .chan none, .chan none, .chan none, .chan none, .chan none, .chan none, .chan none, .chan none, .chan none, .chan none, .chan none, .chan none, .chan none, .chan none, .chan none, .chan none, .chan none, .chan none, .chan none, .chan none, .chan none, .chan none, .chan none, .chan none, .chan none, .chan none, .chan none, .chan none, .chan none, .chan none, .chan none, .chan none, .chan none, .chan none, .chan none, .chan none, .chan none, .chan none, .chan none, .chan none, .chan none, .chan none, .chan none, .chan none, .chan none, .chan none, .chan none, .chan none, .chan none, .chan none, .chan none, .chan none, .chan none, .chan none, .chan none, .chan none, .chan none, .chan none, .chan none, .chan none, .chan none, .chan none, .chan none, .chan none, .chan none, .chan none, .chan none, .chan none, .chan none, .chan none, .chan none, .chan none, .chan none, .chan none, .chan none, .chan none, .chan none, .chan none, .chan none, .chan none, .chan none, .chan none, .chan none, .chan none, .chan none, .chan none, .chan none, .chan none, .chan none, .chan none, .chan none, .chan none, .chan none, .chan none, .chan none, .chan none, .chan none, .chan none, .chan none, .chan none, .chan none, .chan none, .chan none, .chan none, .chan none, .chan none, .chan none, .chan none, .chan none]) ?_ ?_
    · clear hc ht m0 c0 g0 k0
      repeat refine LS.seq ?_
      refine LS.block ?_
      by_cases h0 : k = 0
      case pos =>
        subst h0
        repeat refine LS.seq ?_
        refine LS.region rfl ?_
        refine OS.pure rfl (fun _ => rfl) rfl ?_
        refine OS.pure rfl (fun _ => rfl) rfl ?_
        refine OS.nil ?_
        refine LS.cond rfl (fun hc => ?_) (fun hc => by cases hc)
        repeat refine LS.seq ?_
        refine LS.region rfl ?_
        refine OS.read rfl (e_load 0 rfl rfl rfl rfl rfl) rfl ?_
        refine OS.call noGo rfl (fun _ => rfl) ((bytes_ct hsb).mono ?_)
        rintro v L' ⟨rv, cap, rfl, rfl⟩
        have hesl : (fillB bs b).length ≤ 9223372036854775806 := by
          unfold fillB
          split
          · simp; omega
          · omega
        generalize fillB bs b = es at hesl ⊢
        refine ⟨_, rfl, ?_⟩
        refine OS.pure rfl (fun _ => rfl) rfl ?_
        refine OS.nil ?_
        repeat refine LS.seq ?_
        refine LS.region rfl ?_
        refine OS.pure rfl (fun _ => rfl) rfl ?_
        refine OS.pure rfl (fun _ => rfl) rfl ?_
        refine OS.read rfl (e_load 1 rfl rfl rfl rfl rfl) rfl ?_
        refine OS.pure rfl (fun _ => rfl) rfl ?_
        refine OS.sub Sub.out4 ?_
        refine OS.call noGo rfl (fun _ => rfl) ((rWrite_all hX (by have := hS.len; omega) at_ hab.2 (SV.row (List.mem_cons_self ..) (by rw [byteCells_len]; omega)) hS.ok.2.2.2.2).mono ?_)
        rintro v L' ⟨lv', X', rfl, hX', rfl⟩
        refine ⟨_, rfl, ?_⟩
        refine OS.sub Sub.in4 ?_
        refine OS.pure rfl (fun _ => rfl) rfl ?_
        refine OS.nil ?_
        repeat refine LS.seq ?_
        refine LS.region rfl ?_
        refine OS.pure rfl (fun _ => rfl) rfl ?_
        refine OS.pure rfl (fun _ => rfl) rfl ?_
        refine OS.read rfl (e_load 1 rfl rfl rfl rfl rfl) rfl ?_
        refine OS.pure rfl (fun _ => rfl) rfl ?_
        refine OS.sub (Sub.pulls [3, 3] rfl) ?_
        refine OS.call noGo rfl (fun _ => rfl) ((Write_all hS.ok at_ (SV.row (List.mem_cons_self ..) (by rw [byteCells_len]; omega))).mono ?_)
        rintro v L' ⟨rfl, rfl⟩
        have hS' := hS.write (by omega) at_ es
        generalize (wrD s at_ es).1 = e at *
        generalize (wrD s at_ es).2 = s' at *
        generalize wsD s at_ es ws = ws' at *
        refine ⟨_, rfl, ?_⟩
        refine OS.pure rfl (fun _ => rfl) rfl ?_
        refine OS.pure rfl (e_is (fun _ => rfl) (congrArg Value.bool (ne_same e))) rfl ?_
        refine OS.nil ?_
        refine LS.cond rfl (fun hc => by cases hc) (fun hc => ?_)
        refine LS.skip ?_
        repeat refine LS.seq ?_
        refine LS.region rfl ?_
        refine OS.pure rfl (fun _ => rfl) rfl ?_
        refine OS.nil ?_
        repeat refine LS.seq ?_
        refine LS.block ?_
        refine LS.loopJ [1, 4, 5, 7, 9, 10, 11, 13] (fun q a L' => ∃ (j : Nat) (cs : List UInt8), q = es.length - j ∧ j ≤ es.length ∧ cs.length = es.length ∧ L' = dk rd rb s' ((rv, .cells 5 (byteCells cs)) :: (rt, .cells 41 [.int .i64 0, .int .i64 at_, .string ⟨⟨bs⟩⟩, .bool b]) :: (rx, rfRow lv' s' old) :: (X' ++ L)) ∧
          a = [.chan none, l, .chan none, .chan none, .bool false, ptr rd, .chan none, ptr rx, .chan none, .int .i64 (i : Nat), ptr rt, .slice (some ⟨rv, 0, none⟩) es.length cap, .chan none, .int .i64 (j : Nat), .chan none, .chan none, .chan none, .chan none, .chan none, .chan none, .chan none, .chan none, .chan none, .chan none, .chan none, .chan none, .chan none, .chan none, .chan none, .chan none, .chan none, .chan none, .chan none, .chan none, .chan none, .chan none, .chan none, .chan none, .chan none, .chan none, .chan none, .chan none, .chan none, .chan none, .chan none, .chan none, .chan none, .chan none, .chan none, .chan none, .chan none, .chan none, .chan none, .chan none, .chan none, .chan none, .chan none, .chan none, .chan none, .chan none, .chan none, .chan none, .chan none, .chan none, .chan none, .chan none, .chan none, .chan none, .chan none, .chan none, .chan none, .chan none, .chan none, .chan none, .chan none, .chan none, .chan none, .chan none, .chan none, .chan none, .chan none, .chan none, .chan none, .chan none, .chan none, .chan none, .chan none, .chan none, .chan none, .chan none, .chan none, .chan none, .chan none, .chan none, .chan none, .chan none, .chan none, .chan none, .chan none, .chan none, .chan none, .chan none, .chan none, .chan none, .chan none, .chan none, .chan none, .chan none, .chan none, .chan none, .chan none, .chan none, .chan none, .chan none, .chan none, .chan none, .chan none, .chan none, .chan none, .chan none, .chan none, .chan none, .chan none, .chan none, .chan none, .chan none, .chan none, .chan none, .chan none, .chan none, .chan none, .chan none, .chan none, .chan none, .chan none, .chan none, .chan none, .chan none, .chan none, .chan none, .chan none, .chan none, .chan none, .chan none, .chan none, .chan none, .chan none, .chan none, .chan none, .chan none, .chan none, .chan none, .chan none, .chan none, .chan none, .chan none, .chan none, .chan none, .chan none, .chan none, .chan none, .chan none, .chan none, .chan none, .chan none, .chan none, .chan none, .chan none, .chan none, .chan none, .chan none, .chan none, .chan none, .chan none, .chan none, .chan none, .chan none, .chan none, .chan none, .chan none, .chan none, .chan none, .chan none, .chan none, .chan none, .chan none, .chan none, .chan none, .chan none, .chan none, .chan none, .chan none, .chan none, .chan none, .chan none, .chan none, .chan none, .chan none, .chan none, .chan none, .chan none, .chan none, .chan none, .chan none, .chan none, .chan none, .chan none, .chan none, .chan none, .chan none, .chan none, .chan none, .chan none, .chan none, .chan none, .chan none, .chan none, .chan none, .chan none, .chan none, .chan none, .chan none, .chan none, .chan none, .chan none, .chan none, .chan none, .chan none, .chan none, .chan none, .chan none, .chan none]) (n := es.length) rfl ⟨0, es, rfl, by omega, rfl, rfl, rfl⟩ ?_
        rintro q a L' ⟨j, cs, rfl, hj, hcs, rfl, rfl⟩
        repeat refine LS.seq ?_
        refine LS.region rfl ?_
        refine OS.pure rfl (fun _ => rfl) rfl ?_
        refine OS.pure rfl (fun _ => rfl) rfl ?_
        refine OS.pure rfl (fun _ => rfl) rfl ?_
        refine OS.pure rfl (fun _ => rfl) rfl ?_
        refine OS.nil ?_
        repeat refine LS.seq ?_
        refine LS.cond rfl (fun hc => ?_) (fun hc => ?_)
        · have hc : (j : Int) < es.length := lt_of hc
          have hj2 : j < es.length := by omega
          have hj3 : j < cs.length := by omega
          have hes : es.length ≤ 9223372036854775806 := hesl
          refine LS.skip ?_
          repeat refine LS.seq ?_
          refine LS.block ?_
          repeat refine LS.seq ?_
          refine LS.region rfl ?_
          refine OS.pure rfl (fun _ => rfl) rfl ?_
          refine OS.pure rfl (fun _ => rfl) rfl ?_
          refine OS.pure rfl (fun _ => rfl) rfl ?_
          refine OS.pure rfl (fun _ => rfl) rfl ?_
          refine OS.pure rfl (e_index (j := j) (sz := 1) rfl rfl rfl rfl rfl hj2) rfl ?_
          refine OS.read rfl (e_load 2 rfl rfl rfl rfl (part_one rfl (u8_cell hj3))) rfl ?_
          refine OS.pure rfl (e_inc8 rfl rfl rfl) rfl ?_
          refine OS.pure rfl (e_index (j := j) (sz := 1) rfl rfl rfl rfl rfl hj2) rfl ?_
          refine OS.write rfl (e_store 2 (n := 1) rfl rfl rfl rfl rfl rfl (lay_u8 (cs[j] + 1) hj3) rfl) rfl ?_
          refine OS.nil ?_
          repeat refine LS.seq ?_
          refine LS.region rfl ?_
          refine OS.pure rfl (fun _ => rfl) rfl ?_
          refine OS.pure rfl (e_add rfl rfl rfl (in_i64 (by omega) (by omega))) rfl ?_
          refine OS.pure rfl (fun _ => rfl) rfl ?_
          refine OS.nil ?_
          exact ⟨es.length - (j + 1), by omega, j + 1, _, rfl, by omega, by rw [List.length_set]; exact hcs, rfl, rfl⟩
        refine LS.sub (Sub.drop 2 rfl) (LS.sub (Sub.pulls [2] rfl) ?_)
        refine LS.exit ?_
        exact ⟨rd, rb, rx, old, lv', X', s', ws', hX', hS', rfl, rfl⟩
      have q0 : ieqB k 0 = false := by rw [ieqB_eq]; simpa using h0
      repeat refine LS.seq ?_
      refine LS.region rfl ?_
      refine OS.pure rfl (e_is (fun _ => rfl) (congrArg Value.bool q0)) rfl ?_
      refine OS.pure rfl (fun _ => rfl) rfl ?_
      refine OS.nil ?_
      refine LS.cond rfl (fun hc => by cases hc) (fun hc => ?_)
      by_cases h2 : k = 2
      case pos =>
        subst h2
        repeat refine LS.seq ?_
        refine LS.region rfl ?_
        refine OS.pure rfl (fun _ => rfl) rfl ?_
        refine OS.pure rfl (fun _ => rfl) rfl ?_
        refine OS.nil ?_
        refine LS.cond rfl (fun hc => ?_) (fun hc => by cases hc)
        have hS' := hS.cut at_ hab.2
        repeat refine LS.seq ?_
        refine LS.drawn noGo mixed [(0, false), (1, false), (2, false), (4, false), (5, false), (6, false), (3, true), (7, true), (8, false)] rfl rfl (by kernel_rfl) ?_
        refine ODS.pure rfl rfl (fun _ => rfl) rfl ?_
        refine ODS.pure rfl rfl (fun _ => rfl) rfl ?_
        refine ODS.read rfl rfl (e_load 0 rfl rfl rfl rfl rfl) rfl ?_
        refine ODS.pure rfl rfl (fun _ => rfl) rfl ?_
        refine ODS.pure rfl rfl (fun _ => rfl) rfl ?_
        refine ODS.read rfl rfl (e_load 0 rfl rfl rfl rfl rfl) rfl ?_
        refine ODS.call rfl rfl (fun _ => rfl) ((CS.sub (Sub.pulls [2, 2] rfl) (Cut_all at_ hab.2)).mono ?_)
        rintro v L' ⟨rfl, rfl⟩
        refine ⟨_, rfl, Keep.cons rfl (e_load 2 rfl rfl rfl rfl rfl) (Keep.gone rfl Keep.nil), ?_⟩
        refine ODS.call rfl rfl (fun _ => rfl) ((CS.sub (Sub.pulls [3] rfl) (rSet_all (s := s) at_)).mono ?_)
        rintro v L' ⟨rfl, rfl⟩
        refine ⟨_, rfl, Keep.gone rfl (Keep.gone rfl Keep.nil), ?_⟩
        refine ODS.pure rfl rfl (e_is (fun _ => rfl) (congrArg Value.bool (ne_same (cutD s at_).1))) rfl ?_
        refine ODS.nil ?_
        refine LS.cond rfl (fun hc => by cases hc) (fun hc => ?_)
        refine LS.sub (Sub.pulls [2, 2, 3] rfl) ?_
        refine LS.skip ?_
        exact ⟨rd, rb, rx, old, lv, X, _, ws, hX, hS'.succ, rfl, rfl⟩
      have q2 : ieqB k 2 = false := by rw [ieqB_eq]; simpa using h2
      repeat refine LS.seq ?_
      refine LS.region rfl ?_
      refine OS.pure rfl (e_is (fun _ => rfl) (congrArg Value.bool q2)) rfl ?_
      refine OS.pure rfl (fun _ => rfl) rfl ?_
      refine OS.nil ?_
      refine LS.cond rfl (fun hc => by cases hc) (fun hc => ?_)
      by_cases h3 : k = 3
      case pos =>
        subst h3
        repeat refine LS.seq ?_
        refine LS.region rfl ?_
        refine OS.pure rfl (fun _ => rfl) rfl ?_
        refine OS.pure rfl (fun _ => rfl) rfl ?_
        refine OS.nil ?_
        refine LS.cond rfl (fun hc => ?_) (fun hc => by cases hc)
        by_cases hd : s.dead = true
        case neg =>
          have hd : s.dead = false := by simpa using hd
          repeat refine LS.seq ?_
          refine LS.region rfl ?_
          refine OS.pure rfl (fun _ => rfl) rfl ?_
          refine OS.sub (Sub.pulls [2, 2] rfl) ?_
          refine OS.call noGo rfl (fun _ => rfl) ((Reopen_alive hd).mono ?_)
          rintro v L' ⟨rfl, rfl⟩
          refine ⟨_, rfl, ?_⟩
          refine OS.pure rfl (fun _ => rfl) rfl ?_
          refine OS.pure rfl (fun _ => rfl) rfl ?_
          refine OS.pure rfl (fun _ => rfl) rfl ?_
          refine OS.pure rfl (fun _ => rfl) rfl ?_
          refine OS.pure rfl (fun _ => rfl) rfl ?_
          refine OS.nil ?_
          repeat refine LS.seq ?_
          refine LS.region rfl ?_
          refine OS.pure rfl (fun _ => rfl) rfl ?_
          refine OS.sub (Sub.pulls [3] rfl) ?_
          refine OS.call noGo rfl (fun _ => rfl) ((rReopen_alive hd).mono ?_)
          rintro v L' ⟨rfl, rfl⟩
          refine ⟨_, rfl, ?_⟩
          refine OS.pure rfl (fun _ => rfl) rfl ?_
          refine OS.pure rfl (fun _ => rfl) rfl ?_
          refine OS.pure rfl (fun _ => rfl) rfl ?_
          refine OS.pure rfl (fun _ => rfl) rfl ?_
          refine OS.pure rfl (fun _ => rfl) rfl ?_
          refine OS.nil ?_
          repeat refine LS.seq ?_
          refine LS.region rfl ?_
          refine OS.pure rfl (fun _ => rfl) rfl ?_
          refine OS.pure rfl (fun _ => rfl) rfl ?_
          refine OS.pure rfl (fun _ => rfl) rfl ?_
          refine OS.pure rfl (fun _ => rfl) rfl ?_
          refine OS.pure rfl (fun _ => rfl) rfl ?_
          refine OS.pure rfl (fun _ => rfl) rfl ?_
          refine OS.pure rfl (fun _ => rfl) rfl ?_
          refine OS.pure rfl (fun _ => rfl) rfl ?_
          refine OS.pure rfl (fun _ => rfl) rfl ?_
          refine OS.pure rfl (fun _ => rfl) rfl ?_
          refine OS.nil ?_
          refine LS.cond rfl (fun hc => by cases hc) (fun hc => ?_)
          refine LS.skip ?_
          repeat refine LS.seq ?_
          refine LS.region rfl ?_
          refine OS.pure rfl (fun _ => rfl) rfl ?_
          refine OS.pure rfl (fun _ => rfl) rfl ?_
          refine OS.nil ?_
          refine LS.cond rfl (fun hc => by cases hc) (fun hc => ?_)
          refine LS.sub (Sub.pulls [2, 2, 3] rfl) ?_
          refine LS.skip ?_
          exact ⟨rd, rb, rx, old, lv, X, s, ws, hX, hS.succ, rfl, rfl⟩
        have hS' := hS.reopen
        repeat refine LS.seq ?_
        refine LS.region rfl ?_
        refine OS.pure rfl (fun _ => rfl) rfl ?_
        refine OS.sub (Sub.pulls [2, 2] rfl) ?_
        refine OS.call noGo rfl (fun _ => rfl) ((Reopen_ct hS.ok hd).mono ?_)
        rintro v L' ⟨rd', rb', rfl, rfl⟩
        refine ⟨_, rfl, ?_⟩
        refine OS.pure rfl (fun _ => rfl) rfl ?_
        refine OS.pure rfl (fun _ => rfl) rfl ?_
        refine OS.pure rfl (fun _ => rfl) rfl ?_
        refine OS.pure rfl (fun _ => rfl) rfl ?_
        refine OS.pure rfl (fun _ => rfl) rfl ?_
        refine OS.nil ?_
        repeat refine LS.seq ?_
        refine LS.region rfl ?_
        refine OS.pure rfl (fun _ => rfl) rfl ?_
        refine OS.sub Sub.out5 ?_
        refine OS.call noGo rfl (fun _ => rfl) ((rReopen_dead hX (by have := hS.len; omega) hd).mono ?_)
        rintro v L' ⟨rx', lv', X', rfl, hX', rfl⟩
        refine ⟨_, rfl, ?_⟩
        refine OS.sub Sub.forget ?_
        refine OS.sub Sub.in5 ?_
        refine OS.pure rfl (fun _ => rfl) rfl ?_
        refine OS.pure rfl (fun _ => rfl) rfl ?_
        refine OS.pure rfl (fun _ => rfl) rfl ?_
        refine OS.pure rfl (fun _ => rfl) rfl ?_
        refine OS.pure rfl (fun _ => rfl) rfl ?_
        refine OS.nil ?_
        repeat refine LS.seq ?_
        refine LS.region rfl ?_
        refine OS.pure rfl (fun _ => rfl) rfl ?_
        refine OS.pure rfl (fun _ => rfl) rfl ?_
        refine OS.pure rfl (fun _ => rfl) rfl ?_
        refine OS.pure rfl (fun _ => rfl) rfl ?_
        refine OS.pure rfl (fun _ => rfl) rfl ?_
        refine OS.pure rfl (fun _ => rfl) rfl ?_
        refine OS.pure rfl (fun _ => rfl) rfl ?_
        refine OS.pure rfl (fun _ => rfl) rfl ?_
        refine OS.pure rfl (fun _ => rfl) rfl ?_
        refine OS.pure rfl (fun _ => rfl) rfl ?_
        refine OS.nil ?_
        refine LS.cond rfl (fun hc => by cases hc) (fun hc => ?_)
        refine LS.skip ?_
        repeat refine LS.seq ?_
        refine LS.region rfl ?_
        refine OS.pure rfl (fun _ => rfl) rfl ?_
        refine OS.pure rfl (fun _ => rfl) rfl ?_
        refine OS.nil ?_
        refine LS.cond rfl (fun hc => ?_) (fun hc => by cases hc)
        repeat refine LS.seq ?_
        refine LS.region rfl ?_
        refine OS.pure rfl (fun _ => rfl) rfl ?_
        refine OS.sub (Sub.pulls [3, 3] rfl) ?_
        refine OS.call noGo rfl (fun _ => rfl) ((Read_dead hd _).mono ?_)
        rintro v L' ⟨rfl, rfl⟩
        refine ⟨_, rfl, ?_⟩
        refine OS.pure rfl (fun _ => rfl) rfl ?_
        refine OS.pure rfl (fun _ => rfl) rfl ?_
        refine OS.pure rfl (fun _ => rfl) rfl ?_
        refine OS.pure rfl (fun _ => rfl) rfl ?_
        refine OS.pure rfl (fun _ => rfl) rfl ?_
        refine OS.nil ?_
        repeat refine LS.seq ?_
        refine LS.region rfl ?_
        refine OS.pure rfl (fun _ => rfl) rfl ?_
        refine OS.pure rfl (fun _ => rfl) rfl ?_
        refine OS.nil ?_
        refine LS.cond rfl (fun hc => by cases hc) (fun hc => ?_)
        refine LS.skip ?_
        repeat refine LS.seq ?_
        refine LS.region rfl ?_
        refine OS.pure rfl (fun _ => rfl) rfl ?_
        refine OS.pure rfl (fun _ => rfl) rfl ?_
        refine OS.nil ?_
        repeat refine LS.seq ?_
        refine LS.region rfl ?_
        refine OS.sub (Sub.drop 0 rfl) ?_
        refine OS.sub (Sub.drop 0 rfl) ?_
        refine OS.sub (Sub.pulls [2] rfl) ?_
        refine OS.pure rfl (fun _ => rfl) rfl ?_
        refine OS.pure rfl (fun _ => rfl) rfl ?_
        refine OS.nil ?_
        exact ⟨rd', rb', rx', _, lv', X', _, ws, hX', hS'.succ, rfl, rfl⟩
      have q3 : ieqB k 3 = false := by rw [ieqB_eq]; simpa using h3
      repeat refine LS.seq ?_
      refine LS.region rfl ?_
      refine OS.pure rfl (e_is (fun _ => rfl) (congrArg Value.bool q3)) rfl ?_
      refine OS.pure rfl (fun _ => rfl) rfl ?_
      refine OS.nil ?_
      refine LS.cond rfl (fun hc => by cases hc) (fun hc => ?_)
      by_cases h4 : k = 4
      case pos =>
        subst h4
        repeat refine LS.seq ?_
        refine LS.region rfl ?_
        refine OS.pure rfl (fun _ => rfl) rfl ?_
        refine OS.pure rfl (fun _ => rfl) rfl ?_
        refine OS.nil ?_
        refine LS.cond rfl (fun hc => ?_) (fun hc => by cases hc)
        have hwr : s.wr < 999999 := by have := hS.sum; have := hS.len; omega
        repeat refine LS.seq ?_
        refine LS.region rfl ?_
        refine OS.pure rfl (fun _ => rfl) rfl ?_
        refine OS.sub (Sub.pulls [2, 2] rfl) ?_
        refine OS.call noGo rfl (fun _ => rfl) ((Copy_ct hS.ok).mono ?_)
        rintro v L' ⟨rd', rb', rfl, rfl⟩
        refine ⟨_, rfl, ?_⟩
        refine OS.pure rfl (fun _ => rfl) rfl ?_
        refine OS.nil ?_
        repeat refine LS.seq ?_
        refine LS.region rfl ?_
        refine OS.pure rfl (fun _ => rfl) rfl ?_
        refine OS.fresh rfl (e_make (l := 256) (c := 256) rfl rfl rfl makeT_bytes (Nat.le_refl _) (by omega) (by omega)) (fun _ => rfl) (fun rz => ?_)
        rw [repL_u8]
        refine OS.sub (Sub.pulls [4, 4] rfl) ?_
        refine OS.call noGo rfl (fun _ => rfl) ((Write_all hS.ok 0 (SV.row (List.mem_cons_self ..) (by rw [byteCells_len, List.length_replicate]))).mono ?_)
        rintro v L' ⟨rfl, rfl⟩
        have o1 := wrD_ok (i := 0) (bs := List.replicate 256 0) hS.ok (by omega)
        have w1 := wrD_wr (s := s) (i := 0) (bs := List.replicate 256 0)
        generalize (wrD s 0 (List.replicate 256 0)).2 = s1 at *
        refine ⟨_, rfl, ?_⟩
        refine OS.nil ?_
        repeat refine LS.seq ?_
        refine LS.region rfl ?_
        refine OS.pure rfl (fun _ => rfl) rfl ?_
        refine OS.call noGo rfl (fun _ => rfl) ((Cut_all 0 (by decide)).mono ?_)
        rintro v L' ⟨rfl, rfl⟩
        have o2 := cutD_ok (m := 0) o1 (by decide)
        generalize (cutD s1 0).2 = s2 at *
        refine ⟨_, rfl, ?_⟩
        refine OS.nil ?_
        repeat refine LS.seq ?_
        refine LS.region rfl ?_
        refine OS.pure rfl (fun _ => rfl) rfl ?_
        refine OS.fresh rfl (e_make (l := 256) (c := 256) rfl rfl rfl makeT_bytes (Nat.le_refl _) (by omega) (by omega)) (fun _ => rfl) (fun rz2 => ?_)
        rw [repL_u8]
        refine OS.sub (Sub.pulls [2, 2] rfl) ?_
        refine OS.call noGo rfl (fun _ => rfl) ((Write_all o2 1 (SV.row (List.mem_cons_self ..) (by rw [byteCells_len, List.length_replicate]))).mono ?_)
        rintro v L' ⟨rfl, rfl⟩
        refine ⟨_, rfl, ?_⟩
        refine OS.sub (Sub.drop 0 rfl) ?_
        refine OS.sub (Sub.drop 0 rfl) ?_
        refine OS.sub (Sub.drop 0 rfl) ?_
        refine OS.sub (Sub.drop 0 rfl) ?_
        refine OS.nil ?_
        repeat refine LS.seq ?_
        refine LS.region rfl ?_
        refine OS.pure rfl (fun _ => rfl) rfl ?_
        refine OS.pure rfl (fun _ => rfl) rfl ?_
        refine OS.nil ?_
        repeat refine LS.seq ?_
        refine LS.region rfl ?_
        refine OS.pure rfl (fun _ => rfl) rfl ?_
        refine OS.sub Sub.out3 ?_
        refine OS.call noGo rfl (fun _ => rfl) ((rCopy_ct hX (by have := hS.len; omega)).mono ?_)
        rintro v L' ⟨rx', lv', X', rfl, hX', rfl⟩
        refine ⟨_, rfl, ?_⟩
        refine OS.sub Sub.forget ?_
        refine OS.sub Sub.in3 ?_
        refine OS.sub (Sub.pulls [2] rfl) ?_
        refine OS.pure rfl (fun _ => rfl) rfl ?_
        refine OS.nil ?_
        exact ⟨rd', rb', rx', old, lv', X', s, ws, hX', hS.succ, rfl, rfl⟩
      have q4 : ieqB k 4 = false := by rw [ieqB_eq]; simpa using h4
      repeat refine LS.seq ?_
      refine LS.region rfl ?_
      refine OS.pure rfl (e_is (fun _ => rfl) (congrArg Value.bool q4)) rfl ?_
      refine OS.pure rfl (fun _ => rfl) rfl ?_
      refine OS.nil ?_
      refine LS.cond rfl (fun hc => by cases hc) (fun hc => ?_)
      refine LS.skip ?_
      exact ⟨rd, rb, rx, old, lv, X, s, ws, hX, hS.succ, rfl, rfl⟩
    clear hS hX
    rintro a L2 ⟨rd, rb, rx, old, lv, X, s, ws, hX, hS, rfl, rfl⟩
    have hsub : ∀ {p : Nat × ARow} {G : RL}, SV 2 (X ++ G) lv ws.length (wcells ws) := fun {p G} => hX.sv
    have hq1 : (!ieqB ((s.wr : Nat) : Int) ((ws.length : Nat) - (old : Nat))) = false := by
      rw [ieqB_eq]; have := hS.sum; simp; omega
    have hwl : ws.length ≤ 1000000 := by have := hS.len; omega
    have hol : old ≤ 1000000 := by have := hS.sum; omega
    by_cases hR : s.dead = false ∧ 0 ≤ at_ ∧ at_ < s.n
    case pos =>
      obtain ⟨hd, h0, h1⟩ := hR
      obtain ⟨j, rfl⟩ := Int.eq_ofNat_of_zero_le h0
      have hjn : j < s.n := by omega
      have hsame := hS.same j hjn
      have hbl := blk_len hS.ok.1 hjn
      repeat refine LS.seq ?_
      refine LS.region rfl ?_
      refine OS.pure rfl (fun _ => rfl) rfl ?_
      refine OS.pure rfl (fun _ => rfl) rfl ?_
      refine OS.read rfl (e_load 0 rfl rfl rfl rfl rfl) rfl ?_
      refine OS.sub (Sub.pulls [2, 2] rfl) ?_
      refine OS.call noGo rfl (fun _ => rfl) ((Read_ct hS.ok hd j hjn).mono ?_)
      rintro v L' ⟨rg, rfl, rfl⟩
      refine ⟨_, rfl, ?_⟩
      refine OS.pure rfl (fun _ => rfl) rfl ?_
      refine OS.pure rfl (fun _ => rfl) rfl ?_
      refine OS.pure rfl (fun _ => rfl) rfl ?_
      refine OS.pure rfl (fun _ => rfl) rfl ?_
      refine OS.pure rfl (fun _ => rfl) rfl ?_
      refine OS.nil ?_
      repeat refine LS.seq ?_
      refine LS.region rfl ?_
      refine OS.pure rfl (fun _ => rfl) rfl ?_
      refine OS.pure rfl (fun _ => rfl) rfl ?_
      refine OS.read rfl (e_load 3 rfl rfl rfl rfl rfl) rfl ?_
      refine OS.sub Sub.out4 ?_
      refine OS.call noGo rfl (fun _ => rfl) ((rRead_ok hX hwl hS.each hd j hjn).mono ?_)
      rintro v L' ⟨rw, cap, rfl, rfl⟩
      refine ⟨_, rfl, ?_⟩
      refine OS.sub (Sub.cons Sub.in4) ?_
      refine OS.pure rfl (fun _ => rfl) rfl ?_
      refine OS.pure rfl (fun _ => rfl) rfl ?_
      refine OS.pure rfl (fun _ => rfl) rfl ?_
      refine OS.pure rfl (fun _ => rfl) rfl ?_
      refine OS.pure rfl (fun _ => rfl) rfl ?_
      refine OS.nil ?_
      rw [← hsame]
      generalize hbb : blk s.D j = bb at hbl ⊢
      have hal : ∀ {G : RL} {va vb : Value} {xs : List UInt8} {na nb : Nat}, SV 1 G va na (byteCells xs) → SV 1 G vb nb (byteCells xs) → CS Try.prog 27 [va, vb] G fun v L' => v = .bool true ∧ L' = G := fun h1 h2 => (alike_ct h1 h2).mono (fun v L' ⟨e1, e2⟩ => ⟨by rw [e1]; simp, e2⟩)
      repeat refine LS.seq ?_
      refine LS.drawn noGo mixed [(0, false), (1, false), (2, false), (3, false), (4, false), (5, false), (6, true), (7, false), (8, false), (9, false), (10, false), (12, false), (13, false), (14, false), (15, false), (11, true), (16, false), (17, false), (18, false), (19, false), (21, false), (22, false), (23, false), (24, false), (25, false), (26, false), (27, false), (28, false), (29, false), (30, false), (20, true), (31, false), (32, false), (33, false), (34, false), (36, false), (37, false), (38, false), (39, false), (35, true), (40, false), (41, false)] rfl rfl (by kernel_rfl) ?_
      refine ODS.pure rfl rfl (fun _ => rfl) rfl ?_
      refine ODS.pure rfl rfl (fun _ => rfl) rfl ?_
      refine ODS.pure rfl rfl (fun _ => rfl) rfl ?_
      refine ODS.pure rfl rfl (fun _ => rfl) rfl ?_
      refine ODS.pure rfl rfl (fun _ => rfl) rfl ?_
      refine ODS.pure rfl rfl (fun _ => rfl) rfl ?_
      refine ODS.call rfl rfl (fun _ => rfl) ((hal (xs := bb) (SV.row (e := 85) (r := rg) (by simp) (by rw [byteCells_len]; exact hbl)) (SV.row (e := 5) (r := rw) (by simp) (by rw [byteCells_len]; exact hbl))).mono ?_)
      rintro v L' ⟨rfl, rfl⟩
      refine ⟨_, rfl, Keep.nil, ?_⟩
      refine ODS.pure rfl rfl (fun _ => rfl) rfl ?_
      refine ODS.pure rfl rfl (fun _ => rfl) rfl ?_
      refine ODS.pure rfl rfl (fun _ => rfl) rfl ?_
      refine ODS.pure rfl rfl (fun _ => rfl) rfl ?_
      refine ODS.pure rfl rfl (fun _ => rfl) rfl ?_
      refine ODS.pure rfl rfl (fun _ => rfl) rfl ?_
      refine ODS.pure rfl rfl (fun _ => rfl) rfl ?_
      refine ODS.read rfl rfl (e_load 5 rfl rfl rfl rfl rfl) rfl ?_
      refine ODS.call rfl rfl (fun _ => rfl) ((CS.sub (Sub.pulls [3, 3] rfl) Len_ct).mono ?_)
      rintro v L' ⟨rfl, rfl⟩
      refine ⟨_, rfl, Keep.cons rfl (e_load 5 rfl rfl rfl rfl rfl) Keep.nil, ?_⟩
      refine ODS.pure rfl rfl (e_is (fun _ => rfl) (congrArg Value.bool (ne_same ((s.n : Nat) : Int)))) rfl ?_
      refine ODS.pure rfl rfl (fun _ => rfl) rfl ?_
      refine ODS.pure rfl rfl (fun _ => rfl) rfl ?_
      refine ODS.pure rfl rfl (fun _ => rfl) rfl ?_
      refine ODS.pure rfl rfl (fun _ => rfl) rfl ?_
      refine ODS.pure rfl rfl (fun _ => rfl) rfl ?_
      refine ODS.pure rfl rfl (fun _ => rfl) rfl ?_
      refine ODS.read rfl rfl (e_load 5 rfl rfl rfl rfl rfl) rfl ?_
      refine ODS.pure rfl rfl (e_len (hX.sv (F := L)) rfl rfl rfl rfl rfl) rfl ?_
      refine ODS.pure rfl rfl (fun _ => rfl) rfl ?_
      refine ODS.pure rfl rfl (fun _ => rfl) rfl ?_
      refine ODS.pure rfl rfl (fun _ => rfl) rfl ?_
      refine ODS.read rfl rfl (e_load 5 rfl rfl rfl rfl rfl) rfl ?_
      refine ODS.pure rfl rfl (e_sub rfl rfl rfl (in_i64 (by omega) (by omega))) rfl ?_
      refine ODS.call rfl rfl (fun _ => rfl) ((Writes_ct).mono ?_)
      rintro v L' ⟨rfl, rfl⟩
      refine ⟨_, rfl, Keep.cons rfl (e_load 5 rfl rfl rfl rfl rfl) (Keep.cons rfl (e_load 5 rfl rfl rfl rfl rfl) (Keep.gone rfl Keep.nil)), ?_⟩
      refine ODS.pure rfl rfl (e_is (fun _ => rfl) (congrArg Value.bool hq1)) rfl ?_
      refine ODS.pure rfl rfl (fun _ => rfl) rfl ?_
      refine ODS.pure rfl rfl (fun _ => rfl) rfl ?_
      refine ODS.pure rfl rfl (fun _ => rfl) rfl ?_
      refine ODS.pure rfl rfl (fun _ => rfl) rfl ?_
      refine ODS.pure rfl rfl (fun _ => rfl) rfl ?_
      refine ODS.pure rfl rfl (fun _ => rfl) rfl ?_
      refine ODS.read rfl rfl (e_load 5 rfl rfl rfl rfl rfl) rfl ?_
      refine ODS.call rfl rfl (fun _ => rfl) ((Dead_ct).mono ?_)
      rintro v L' ⟨rfl, rfl⟩
      refine ⟨_, rfl, Keep.cons rfl (e_load 5 rfl rfl rfl rfl rfl) (Keep.gone rfl (Keep.gone rfl (Keep.gone rfl Keep.nil))), ?_⟩
      refine ODS.pure rfl rfl (e_is (fun _ => rfl) (congrArg Value.bool (show (s.dead != s.dead) = false by simp))) rfl ?_
      refine ODS.pure rfl rfl (fun _ => rfl) rfl ?_
      refine ODS.nil ?_
      refine LS.cond rfl (fun hc => by cases hc) (fun hc => ?_)
      refine LS.skip ?_
      repeat refine LS.seq ?_
      refine LS.region rfl ?_
      refine OS.pure rfl (fun _ => rfl) rfl ?_
      refine OS.nil ?_
      repeat refine LS.seq ?_
      refine LS.block ?_
      refine LS.loopJ [1, 4, 5, 7, 9, 10, 21, 23, 25] (fun q a L' => ∃ (p : Nat) (cs : List Value), q = 256 - p ∧ p ≤ 256 ∧ cs.length = 256 ∧ L' = dk rd rb s ((rw, .cells 5 (byteCells bb)) :: (rg, .cells 85 cs) :: (rt, .cells 41 [.int .i64 k, .int .i64 (j : Nat), .string ⟨⟨bs⟩⟩, .bool b]) :: (rx, rfRow lv s old) :: (X ++ L)) ∧
        a = [.chan none, l, .chan none, .chan none, .bool false, ptr rd, .chan none, ptr rx, .chan none, .int .i64 (i : Nat), ptr rt, .chan none, .chan none, .chan none, .chan none, .chan none, .chan none, .chan none, .chan none, .chan none, .chan none, .slice (some ⟨rg, 0, none⟩) 256 256, .chan none, .slice (some ⟨rw, 0, none⟩) 256 cap, .chan none, .int .i64 (p : Nat), .chan none, .chan none, .chan none, .chan none, .chan none, .chan none, .chan none, .chan none, .chan none, .chan none, .chan none, .chan none, .chan none, .chan none, .chan none, .chan none, .chan none, .chan none, .chan none, .chan none, .chan none, .chan none, .chan none, .chan none, .chan none, .chan none, .chan none, .chan none, .chan none, .chan none, .chan none, .chan none, .chan none, .chan none, .chan none, .chan none, .chan none, .chan none, .chan none, .chan none, .chan none, .chan none, .chan none, .chan none, .chan none, .chan none, .chan none, .chan none, .chan none, .chan none, .chan none, .chan none, .chan none, .chan none, .chan none, .chan none, .chan none, .chan none, .chan none, .chan none, .chan none, .chan none, .chan none, .chan none, .chan none, .chan none, .chan none, .chan none, .chan none, .chan none, .chan none, .chan none, .chan none, .chan none, .chan none, .chan none, .chan none, .chan none, .chan none, .chan none, .chan none, .chan none, .chan none, .chan none, .chan none, .chan none, .chan none, .chan none, .chan none, .chan none, .chan none, .chan none, .chan none, .chan none, .chan none, .chan none, .chan none, .chan none, .chan none, .chan none, .chan none, .chan none, .chan none, .chan none, .chan none, .chan none, .chan none, .chan none, .chan none, .chan none, .chan none, .chan none, .chan none, .chan none, .chan none, .chan none, .chan none, .chan none, .chan none, .chan none, .chan none, .chan none, .chan none, .chan none, .chan none, .chan none, .chan none, .chan none, .chan none, .chan none, .chan none, .chan none, .chan none, .chan none, .chan none, .chan none, .chan none, .chan none, .chan none, .chan none, .chan none, .chan none, .chan none, .chan none, .chan none, .chan none, .chan none, .chan none, .chan none, .chan none, .chan none, .chan none, .chan none, .chan none, .chan none, .chan none, .chan none, .chan none, .chan none, .chan none, .chan none, .chan none, .chan none, .chan none, .chan none, .chan none, .chan none, .chan none, .chan none, .chan none, .chan none, .chan none, .chan none, .chan none, .chan none, .chan none, .chan none, .chan none, .chan none, .chan none, .chan none, .chan none, .chan none, .chan none, .chan none, .chan none, .chan none, .chan none, .chan none, .chan none, .chan none, .chan none, .chan none, .chan none, .chan none, .chan none, .chan none, .chan none, .chan none, .chan none, .chan none, .chan none, .chan none, .chan none, .chan none, .chan none]) (n := 256) rfl ⟨0, _, rfl, by omega, by rw [byteCells_len]; exact hbl, rfl, rfl⟩ ?_
      rintro q a L' ⟨p, cs, rfl, hp, hcs, rfl, rfl⟩
      repeat refine LS.seq ?_
      refine LS.region rfl ?_
      refine OS.pure rfl (fun _ => rfl) rfl ?_
      refine OS.pure rfl (fun _ => rfl) rfl ?_
      refine OS.pure rfl (fun _ => rfl) rfl ?_
      refine OS.pure rfl (fun _ => rfl) rfl ?_
      refine OS.nil ?_
      repeat refine LS.seq ?_
      refine LS.cond rfl (fun hc => ?_) (fun hc => ?_)
      · have hc : (p : Int) < (256 : Nat) := lt_of hc
        have hp2 : p < 256 := by omega
        refine LS.skip ?_
        repeat refine LS.seq ?_
        refine LS.block ?_
        repeat refine LS.seq ?_
        refine LS.region rfl ?_
        refine OS.pure rfl (fun _ => rfl) rfl ?_
        refine OS.pure rfl (fun _ => rfl) rfl ?_
        refine OS.pure rfl (e_index (j := p) (sz := 1) rfl rfl rfl rfl rfl hp2) rfl ?_
        refine OS.write rfl (e_store 3 (n := 1) (cs' := cs.set p (.int .u8 77)) rfl rfl rfl rfl rfl rfl (by rw [show 0 + p * 1 = p by omega]; exact lay_one (by omega)) rfl) rfl ?_
        refine OS.nil ?_
        repeat refine LS.seq ?_
        refine LS.region rfl ?_
        refine OS.pure rfl (fun _ => rfl) rfl ?_
        refine OS.pure rfl (e_add rfl rfl rfl (in_i64 (by omega) (by omega))) rfl ?_
        refine OS.pure rfl (fun _ => rfl) rfl ?_
        refine OS.nil ?_
        exact ⟨256 - (p + 1), by omega, p + 1, _, rfl, by omega, by rw [List.length_set]; exact hcs, rfl, rfl⟩
      refine LS.exit ?_
      repeat refine LS.seq ?_
      refine LS.region rfl ?_
      refine OS.pure rfl (fun _ => rfl) rfl ?_
      refine OS.pure rfl (fun _ => rfl) rfl ?_
      refine OS.read rfl (e_load 4 rfl rfl rfl rfl rfl) rfl ?_
      refine OS.call noGo rfl (fun _ => rfl) ((Read_ct hS.ok hd j hjn).mono ?_)
      rintro v L' ⟨ra, rfl, rfl⟩
      rw [hbb]
      refine ⟨_, rfl, ?_⟩
      refine OS.pure rfl (fun _ => rfl) rfl ?_
      refine OS.pure rfl (fun _ => rfl) rfl ?_
      refine OS.pure rfl (fun _ => rfl) rfl ?_
      refine OS.pure rfl (fun _ => rfl) rfl ?_
      refine OS.pure rfl (fun _ => rfl) rfl ?_
      refine OS.nil ?_
      repeat refine LS.seq ?_
      refine LS.region rfl ?_
      refine OS.pure rfl (fun _ => rfl) rfl ?_
      refine OS.pure rfl (fun _ => rfl) rfl ?_
      refine OS.call noGo rfl (fun _ => rfl) ((hal (xs := bb) (SV.row (e := 85) (r := ra) (by simp) (by rw [byteCells_len]; exact hbl)) (SV.row (e := 5) (r := rw) (by simp) (by rw [byteCells_len]; exact hbl))).mono ?_)
      rintro v L' ⟨rfl, rfl⟩
      refine ⟨_, rfl, ?_⟩
      refine OS.pure rfl (fun _ => rfl) rfl ?_
      refine OS.nil ?_
      refine LS.cond rfl (fun hc => by cases hc) (fun hc => ?_)
      refine LS.skip ?_
      repeat refine LS.seq ?_
      refine LS.region rfl ?_
      refine OS.sub (Sub.drop 0 rfl) ?_
      refine OS.sub (Sub.drop 2 rfl) ?_
      refine OS.sub (Sub.drop 2 rfl) ?_
      refine OS.sub (Sub.drop 2 rfl) ?_
      refine OS.pure rfl (fun _ => rfl) rfl ?_
      refine OS.pure rfl (e_add rfl rfl rfl (in_i64 (by omega) (by omega))) rfl ?_
      refine OS.pure rfl (fun _ => rfl) rfl ?_
      refine OS.nil ?_
      exact ⟨m - (i + 1), by omega, i + 1, rd, rb, rx, old, lv, X, s, ws, rfl, by omega, hX, hS, rfl, rfl⟩
    obtain ⟨e, hA, hB⟩ : ∃ e : Int, (∀ F : RL, CS Try.prog 12 [ptr rd, .int .i64 at_] (dk rd rb s F) fun v L' => v = .tuple #[.slice none 0 0, .int .i64 e] ∧ L' = dk rd rb s F) ∧
        (∀ F : RL, CS Try.prog 26 [ptr rx, .int .i64 at_] ((rx, rfRow lv s old) :: F) fun v L' => v = .tuple #[.slice none 0 0, .int .i64 e] ∧ L' = (rx, rfRow lv s old) :: F) := by
      by_cases hd : s.dead = true
      · exact ⟨20, fun F => Read_dead hd _, fun F => rRead_dead hd _⟩
      · have hd : s.dead = false := by simpa using hd
        have ho : ¬ (0 ≤ at_ ∧ at_ < s.n) := fun h => hR ⟨hd, h⟩
        exact ⟨1, fun F => Read_out hd at_ ho, fun F => rRead_out hd at_ ho⟩
    have hal : ∀ {G : RL}, CS Try.prog 27 [.slice none 0 0, .slice none 0 0] G fun v L' => v = .bool true ∧ L' = G := fun {G} => (alike_ct (xs := []) (ys := []) (.inl ⟨rfl, rfl, rfl⟩) (.inl ⟨rfl, rfl, rfl⟩)).mono (fun v L' ⟨e1, e2⟩ => ⟨by rw [e1]; simp, e2⟩)
    repeat refine LS.seq ?_
    refine LS.region rfl ?_
    refine OS.pure rfl (fun _ => rfl) rfl ?_
    refine OS.pure rfl (fun _ => rfl) rfl ?_
    refine OS.read rfl (e_load 0 rfl rfl rfl rfl rfl) rfl ?_
    refine OS.sub (Sub.pulls [2, 2] rfl) ?_
    refine OS.call noGo rfl (fun _ => rfl) ((hA _).mono ?_)
    rintro v L' ⟨rfl, rfl⟩
    refine ⟨_, rfl, ?_⟩
    refine OS.pure rfl (fun _ => rfl) rfl ?_
    refine OS.pure rfl (fun _ => rfl) rfl ?_
    refine OS.pure rfl (fun _ => rfl) rfl ?_
    refine OS.pure rfl (fun _ => rfl) rfl ?_
    refine OS.pure rfl (fun _ => rfl) rfl ?_
    refine OS.nil ?_
    repeat refine LS.seq ?_
    refine LS.region rfl ?_
    refine OS.pure rfl (fun _ => rfl) rfl ?_
    refine OS.pure rfl (fun _ => rfl) rfl ?_
    refine OS.read rfl (e_load 2 rfl rfl rfl rfl rfl) rfl ?_
    refine OS.sub (Sub.pulls [3] rfl) ?_
    refine OS.call noGo rfl (fun _ => rfl) ((hB _).mono ?_)
    rintro v L' ⟨rfl, rfl⟩
    refine ⟨_, rfl, ?_⟩
    refine OS.sub (Sub.pulls [3, 3, 3] rfl) ?_
    refine OS.pure rfl (fun _ => rfl) rfl ?_
    refine OS.pure rfl (fun _ => rfl) rfl ?_
    refine OS.pure rfl (fun _ => rfl) rfl ?_
    refine OS.pure rfl (fun _ => rfl) rfl ?_
    refine OS.pure rfl (fun _ => rfl) rfl ?_
    refine OS.nil ?_
    repeat refine LS.seq ?_
    refine LS.drawn noGo mixed [(0, false), (1, false), (2, false), (3, false), (4, false), (5, false), (6, true), (7, false), (8, false), (9, false), (10, false), (12, false), (13, false), (14, false), (15, false), (11, true), (16, false), (17, false), (18, false), (19, false), (21, false), (22, false), (23, false), (24, false), (25, false), (26, false), (27, false), (28, false), (29, false), (30, false), (20, true), (31, false), (32, false), (33, false), (34, false), (36, false), (37, false), (38, false), (39, false), (35, true), (40, false), (41, false)] rfl rfl (by kernel_rfl) ?_
    refine ODS.pure rfl rfl (fun _ => rfl) rfl ?_
    refine ODS.pure rfl rfl (fun _ => rfl) rfl ?_
    refine ODS.pure rfl rfl (e_is (fun _ => rfl) (congrArg Value.bool (ne_same e))) rfl ?_
    refine ODS.pure rfl rfl (fun _ => rfl) rfl ?_
    refine ODS.pure rfl rfl (fun _ => rfl) rfl ?_
    refine ODS.pure rfl rfl (fun _ => rfl) rfl ?_
    refine ODS.call rfl rfl (fun _ => rfl) ((hal).mono ?_)
    rintro v L' ⟨rfl, rfl⟩
    refine ⟨_, rfl, Keep.nil, ?_⟩
    refine ODS.pure rfl rfl (fun _ => rfl) rfl ?_
    refine ODS.pure rfl rfl (fun _ => rfl) rfl ?_
    refine ODS.pure rfl rfl (fun _ => rfl) rfl ?_
    refine ODS.pure rfl rfl (fun _ => rfl) rfl ?_
    refine ODS.pure rfl rfl (fun _ => rfl) rfl ?_
    refine ODS.pure rfl rfl (fun _ => rfl) rfl ?_
    refine ODS.pure rfl rfl (fun _ => rfl) rfl ?_
    refine ODS.read rfl rfl (e_load 3 rfl rfl rfl rfl rfl) rfl ?_
    refine ODS.call rfl rfl (fun _ => rfl) ((CS.sub (Sub.pulls [0] rfl) Len_ct).mono ?_)
    rintro v L' ⟨rfl, rfl⟩
    refine ⟨_, rfl, Keep.cons rfl (e_load 3 rfl rfl rfl rfl rfl) Keep.nil, ?_⟩
    refine ODS.pure rfl rfl (e_is (fun _ => rfl) (congrArg Value.bool (ne_same ((s.n : Nat) : Int)))) rfl ?_
    refine ODS.pure rfl rfl (fun _ => rfl) rfl ?_
    refine ODS.pure rfl rfl (fun _ => rfl) rfl ?_
    refine ODS.pure rfl rfl (fun _ => rfl) rfl ?_
    refine ODS.pure rfl rfl (fun _ => rfl) rfl ?_
    refine ODS.pure rfl rfl (fun _ => rfl) rfl ?_
    refine ODS.pure rfl rfl (fun _ => rfl) rfl ?_
    refine ODS.read rfl rfl (e_load 3 rfl rfl rfl rfl rfl) rfl ?_
    refine ODS.pure rfl rfl (e_len (hX.sv (F := L)) rfl rfl rfl rfl rfl) rfl ?_
    refine ODS.pure rfl rfl (fun _ => rfl) rfl ?_
    refine ODS.pure rfl rfl (fun _ => rfl) rfl ?_
    refine ODS.pure rfl rfl (fun _ => rfl) rfl ?_
    refine ODS.read rfl rfl (e_load 3 rfl rfl rfl rfl rfl) rfl ?_
    refine ODS.pure rfl rfl (e_sub rfl rfl rfl (in_i64 (by omega) (by omega))) rfl ?_
    refine ODS.call rfl rfl (fun _ => rfl) ((Writes_ct).mono ?_)
    rintro v L' ⟨rfl, rfl⟩
    refine ⟨_, rfl, Keep.cons rfl (e_load 3 rfl rfl rfl rfl rfl) (Keep.cons rfl (e_load 3 rfl rfl rfl rfl rfl) (Keep.gone rfl Keep.nil)), ?_⟩
    refine ODS.pure rfl rfl (e_is (fun _ => rfl) (congrArg Value.bool hq1)) rfl ?_
    refine ODS.pure rfl rfl (fun _ => rfl) rfl ?_
    refine ODS.pure rfl rfl (fun _ => rfl) rfl ?_
    refine ODS.pure rfl rfl (fun _ => rfl) rfl ?_
    refine ODS.pure rfl rfl (fun _ => rfl) rfl ?_
    refine ODS.pure rfl rfl (fun _ => rfl) rfl ?_
    refine ODS.pure rfl rfl (fun _ => rfl) rfl ?_
    refine ODS.read rfl rfl (e_load 3 rfl rfl rfl rfl rfl) rfl ?_
    refine ODS.call rfl rfl (fun _ => rfl) ((Dead_ct).mono ?_)
    rintro v L' ⟨rfl, rfl⟩
    refine ⟨_, rfl, Keep.cons rfl (e_load 3 rfl rfl rfl rfl rfl) (Keep.gone rfl (Keep.gone rfl (Keep.gone rfl Keep.nil))), ?_⟩
    refine ODS.pure rfl rfl (e_is (fun _ => rfl) (congrArg Value.bool (show (s.dead != s.dead) = false by simp))) rfl ?_
    refine ODS.pure rfl rfl (fun _ => rfl) rfl ?_
    refine ODS.nil ?_
    refine LS.cond rfl (fun hc => by cases hc) (fun hc => ?_)
    refine LS.skip ?_
    repeat refine LS.seq ?_
    refine LS.region rfl ?_
    refine OS.pure rfl (fun _ => rfl) rfl ?_
    refine OS.nil ?_
    repeat refine LS.seq ?_
    refine LS.block ?_
    refine LS.loopJ [1, 4, 5, 7, 9, 10, 21, 23, 25] (fun q a L' => L' = dk rd rb s ((rt, .cells 41 [.int .i64 k, .int .i64 at_, .string ⟨⟨bs⟩⟩, .bool b]) :: (rx, rfRow lv s old) :: (X ++ L)) ∧
      a = [.chan none, l, .chan none, .chan none, .bool false, ptr rd, .chan none, ptr rx, .chan none, .int .i64 (i : Nat), ptr rt, .chan none, .chan none, .chan none, .chan none, .chan none, .chan none, .chan none, .chan none, .chan none, .chan none, .slice none 0 0, .chan none, .slice none 0 0, .chan none, .int .i64 0, .chan none, .chan none, .chan none, .chan none, .chan none, .chan none, .chan none, .chan none, .chan none, .chan none, .chan none, .chan none, .chan none, .chan none, .chan none, .chan none, .chan none, .chan none, .chan none, .chan none, .chan none, .chan none, .chan none, .chan none, .chan none, .chan none, .chan none, .chan none, .chan none, .chan none, .chan none, .chan none, .chan none, .chan none, .chan none, .chan none, .chan none, .chan none, .chan none, .chan none, .chan none, .chan none, .chan none, .chan none, .chan none, .chan none, .chan none, .chan none, .chan none, .chan none, .chan none, .chan none, .chan none, .chan none, .chan none, .chan none, .chan none, .chan none, .chan none, .chan none, .chan none, .chan none, .chan none, .chan none, .chan none, .chan none, .chan none, .chan none, .chan none, .chan none, .chan none, .chan none, .chan none, .chan none, .chan none, .chan none, .chan none, .chan none, .chan none, .chan none, .chan none, .chan none, .chan none, .chan none, .chan none, .chan none, .chan none, .chan none, .chan none, .chan none, .chan none, .chan none, .chan none, .chan none, .chan none, .chan none, .chan none, .chan none, .chan none, .chan none, .chan none, .chan none, .chan none, .chan none, .chan none, .chan none, .chan none, .chan none, .chan none, .chan none, .chan none, .chan none, .chan none, .chan none, .chan none, .chan none, .chan none, .chan none, .chan none, .chan none, .chan none, .chan none, .chan none, .chan none, .chan none, .chan none, .chan none, .chan none, .chan none, .chan none, .chan none, .chan none, .chan none, .chan none, .chan none, .chan none, .chan none, .chan none, .chan none, .chan none, .chan none, .chan none, .chan none, .chan none, .chan none, .chan none, .chan none, .chan none, .chan none, .chan none, .chan none, .chan none, .chan none, .chan none, .chan none, .chan none, .chan none, .chan none, .chan none, .chan none, .chan none, .chan none, .chan none, .chan none, .chan none, .chan none, .chan none, .chan none, .chan none, .chan none, .chan none, .chan none, .chan none, .chan none, .chan none, .chan none, .chan none, .chan none, .chan none, .chan none, .chan none, .chan none, .chan none, .chan none, .chan none, .chan none, .chan none, .chan none, .chan none, .chan none, .chan none, .chan none, .chan none, .chan none, .chan none, .chan none, .chan none, .chan none, .chan none, .chan none, .chan none, .chan none, .chan none, .chan none, .chan none, .chan none]) (n := 0) rfl ⟨rfl, rfl⟩ ?_
    rintro q a L' ⟨rfl, rfl⟩
    repeat refine LS.seq ?_
    refine LS.region rfl ?_
    refine OS.pure rfl (fun _ => rfl) rfl ?_
    refine OS.pure rfl (fun _ => rfl) rfl ?_
    refine OS.pure rfl (fun _ => rfl) rfl ?_
    refine OS.pure rfl (fun _ => rfl) rfl ?_
    refine OS.nil ?_
    repeat refine LS.seq ?_
    refine LS.cond rfl (fun hc => by cases hc) (fun hc => ?_)
    refine LS.exit ?_
    repeat refine LS.seq ?_
    refine LS.region rfl ?_
    refine OS.pure rfl (fun _ => rfl) rfl ?_
    refine OS.pure rfl (fun _ => rfl) rfl ?_
    refine OS.read rfl (e_load 2 rfl rfl rfl rfl rfl) rfl ?_
    refine OS.call noGo rfl (fun _ => rfl) ((hA _).mono ?_)
    rintro v L' ⟨rfl, rfl⟩
    refine ⟨_, rfl, ?_⟩
    refine OS.pure rfl (fun _ => rfl) rfl ?_
    refine OS.pure rfl (fun _ => rfl) rfl ?_
    refine OS.pure rfl (fun _ => rfl) rfl ?_
    refine OS.pure rfl (fun _ => rfl) rfl ?_
    refine OS.pure rfl (fun _ => rfl) rfl ?_
    refine OS.nil ?_
    repeat refine LS.seq ?_
    refine LS.region rfl ?_
    refine OS.pure rfl (fun _ => rfl) rfl ?_
    refine OS.pure rfl (fun _ => rfl) rfl ?_
    refine OS.call noGo rfl (fun _ => rfl) ((hal).mono ?_)
    rintro v L' ⟨rfl, rfl⟩
    refine ⟨_, rfl, ?_⟩
    refine OS.pure rfl (fun _ => rfl) rfl ?_
    refine OS.nil ?_
    refine LS.cond rfl (fun hc => by cases hc) (fun hc => ?_)
    refine LS.skip ?_
    repeat refine LS.seq ?_
    refine LS.region rfl ?_
    refine OS.sub (Sub.drop 2 rfl) ?_
    refine OS.pure rfl (fun _ => rfl) rfl ?_
    refine OS.pure rfl (e_add rfl rfl rfl (in_i64 (by omega) (by omega))) rfl ?_
    refine OS.pure rfl (fun _ => rfl) rfl ?_
    refine OS.nil ?_
    exact ⟨m - (i + 1), by omega, i + 1, rd, rb, rx, old, lv, X, s, ws, rfl, by omega, hX, hS, rfl, rfl⟩
  refine LS.exit ?_
  repeat refine LS.seq ?_
  refine LS.region rfl ?_
  refine OS.pure rfl (fun _ => rfl) rfl ?_
  refine OS.nil ?_
  refine LS.ret ⟨_, fun _ _ => rfl, ?_⟩
  rfl
end Go.Proofs.Ythfgjedcmhllfaa
