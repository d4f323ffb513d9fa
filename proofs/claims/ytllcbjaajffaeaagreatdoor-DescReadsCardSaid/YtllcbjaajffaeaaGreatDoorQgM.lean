import Derived.Test.YtllcbjaajffaeaaGreatDoorQf
namespace Go.Proofs.YtllcbjaajffaeaaGreatDoor
open Go.Am Go.Pd
set_option linter.unusedVariables false
set_option maxRecDepth 20000
set_option maxHeartbeats 8000000
attribute [local irreducible] OS LSr ODS CS YS
section
variable {F L M M' : RL}
theorem SameItems_ct {a b : List It} {va vb : Value} {ca cb : List Value} (nb : Bool) (ha : SV 3 M va a.length ca) (hA : ItsA M a ca) (hM : ∀ p, p ∈ M → p ∈ L) (hb : SV 3 M' vb b.length cb) (hB : ItsA M' b cb) (hM' : ∀ p, p ∈ M' → p ∈ L) (hn : a.length ≤ 9000000000000000) (hx : ∀ x, x ∈ a → x.args.length ≤ 9000000000000000) :
    CS Tryz.prog 33 [va, vb, .bool nb] L fun v L' => v = .bool (sameI nb a b) ∧ L' = L := by
  obtain ⟨aA, ac, rfl⟩ := ha.form
  obtain ⟨bA, bc, rfl⟩ := hb.form
  have haL := ha.up hM
  have hbL := hb.up hM'
  refine CS.mk (fn := Tryz.f33) rfl rfl rfl rfl ?_
  by_cases hl : a.length = b.length
  rotate_left
  · have hbl : (!ieqB ((a.length : Nat) : Int) (b.length : Nat)) = true := by rw [ieqB_eq]; simp; omega
    rw [sameI_len hl]
    refine yG ?_
    exact ⟨rfl, rfl⟩
  have hbl : (!ieqB ((a.length : Nat) : Int) (b.length : Nat)) = false := by rw [ieqB_eq]; simp; omega
  refine yG ?_
  refine LS.loopJ [0, 1, 2, 7] (fun q s L' => ∃ j : Nat, q = a.length - j ∧ j ≤ a.length ∧ sameI nb a b = sameI nb (a.drop j) (b.drop j) ∧ L' = L ∧ s = [.slice aA a.length ac, .slice bA b.length bc, .bool nb, .chan none, .chan none, .chan none, .chan none, .int .i64 (j : Nat), .chan none, .chan none, .chan none, .chan none, .chan none, .chan none, .chan none, .chan none, .chan none, .chan none, .chan none, .chan none, .chan none, .chan none, .chan none, .chan none, .chan none, .chan none, .chan none, .chan none, .chan none, .chan none, .chan none, .chan none, .chan none, .chan none, .chan none, .chan none, .chan none, .chan none, .chan none, .chan none, .chan none, .chan none, .chan none, .chan none, .chan none, .chan none, .chan none, .chan none, .chan none, .chan none, .chan none, .chan none, .chan none, .chan none, .chan none, .chan none, .chan none, .chan none, .chan none, .chan none]) (n := a.length) rfl ⟨0, rfl, by omega, rfl, rfl, rfl⟩ ?_
  rintro q s L' ⟨j, rfl, hj, hE, rfl, rfl⟩
  by_cases hjn : j < a.length
  · have hbb : (!ileB ((a.length : Nat) : Int) (j : Nat)) = true := by rw [ileB_eq]; simp; omega
    have hjb : j < b.length := by omega
    have hxj : a[j]? = some a[j] := List.getElem?_eq_getElem hjn
    have hyj : b[j]? = some b[j] := List.getElem?_eq_getElem hjb
    have hxl := hx _ (List.getElem_mem hjn)
    rw [List.drop_eq_getElem_cons hjn, List.drop_eq_getElem_cons hjb, sameI] at hE
    generalize a[j] = x at hxj hE hxl
    generalize b[j] = y at hyj hE
    obtain ⟨xv, hcut, hxv⟩ := hA.at hxj
    obtain ⟨yv, hcut', hyv⟩ := hB.at hyj
    refine yG ?_
    repeat refine LS.seq ?_
    refine LS.drawn noGo mixed [(0, false), (1, false), (2, false), (3, false), (4, false), (5, false), (6, false), (7, false), (8, false), (9, false), (10, false), (11, false), (12, false), (13, false), (14, false), (15, false), (16, false), (17, false), (18, false), (19, false), (20, false), (21, false), (22, true), (23, false), (24, false), (25, false), (26, false), (27, false), (28, false), (29, false), (30, false), (31, false), (32, false), (33, false), (34, false), (35, false), (36, false), (37, false), (38, false), (39, false), (40, false)] rfl rfl (by kernel_rfl) ?_
    refine yG ?_
    refine ODS.at (j := j) haL hjn rfl rfl rfl rfl rfl rfl rfl (fun r0 o0 row0 cs0 m0 c0 g0 k0 => ?_)
    refine ⟨_, rfl, ?_⟩
    refine yG ?_
    refine ODS.read rfl rfl (e_loadm m0 c0 rfl rfl (part_one rfl (g0 1 (str x.word) (by decide) (cut_get hcut (j := 1) rfl)))) rfl ?_
    refine yG ?_
    refine ODS.at (j := j) hbL hjb rfl rfl rfl rfl rfl rfl rfl (fun r1 o1 row1 cs1 m1 c1 g1 k1 => ?_)
    refine ⟨_, rfl, ?_⟩
    refine yG ?_
    refine ODS.read rfl rfl (e_loadm m1 c1 rfl rfl (part_one rfl (g1 1 (str y.word) (by decide) (cut_get hcut' (j := 1) rfl)))) rfl ?_
    by_cases hw : x.word = y.word
    rotate_left
    · have hwb : (!bytesEq x.word y.word) = true := by rw [beq_bytes]; simpa using hw
      rw [decide_eq_false hw] at hE
      simp only [Bool.false_and] at hE
      rw [hE]
      refine yG ?_
      exact ⟨rfl, rfl⟩
    have hwb : (!bytesEq x.word y.word) = false := by rw [beq_bytes]; simpa using hw
    rw [decide_eq_true hw, Bool.true_and] at hE
    refine yG ?_
    refine ODS.at (j := j) haL hjn rfl rfl rfl rfl rfl rfl rfl (fun r2 o2 row2 cs2 m2 c2 g2 k2 => ?_)
    refine ⟨_, rfl, ?_⟩
    refine yG ?_
    refine ODS.read rfl rfl (e_loadm m2 c2 rfl rfl (part_one rfl (g2 2 xv (by decide) (cut_get hcut (j := 2) rfl)))) rfl ?_
    refine yG ?_
    refine ODS.at (j := j) hbL hjb rfl rfl rfl rfl rfl rfl rfl (fun r3 o3 row3 cs3 m3 c3 g3 k3 => ?_)
    refine ⟨_, rfl, ?_⟩
    refine yG ?_
    refine ODS.read rfl rfl (e_loadm m3 c3 rfl rfl (part_one rfl (g3 2 yv (by decide) (cut_get hcut' (j := 2) rfl)))) rfl ?_
    refine ODS.call rfl rfl (fun _ => rfl) ((Same_ct (hxv.up hM) (hyv.up hM') hxl).mono ?_)
    rintro v L' ⟨rfl, rfl⟩
    refine ⟨_, rfl, ?_, ?_⟩
    · exact Keep.gone rfl (Keep.gone rfl (Keep.gone rfl (Keep.gone rfl Keep.nil)))
    by_cases hargs : x.args = y.args
    rotate_left
    · rw [decide_eq_false hargs] at hE ⊢
      simp only [Bool.false_and] at hE
      rw [hE]
      refine yG ?_
      exact ⟨rfl, rfl⟩
    rw [decide_eq_true hargs] at hE ⊢
    rw [Bool.true_and] at hE
    cases nb with
    | false =>
      simp only [Bool.not_false, Bool.true_or, Bool.true_and] at hE
      refine yG ?_
      exact ⟨a.length - (j + 1), by omega, j + 1, rfl, by omega, hE, rfl, rfl⟩
    | true =>
      simp only [Bool.not_true, Bool.false_or] at hE
      refine yG ?_
      refine ODS.at (j := j) haL hjn rfl rfl rfl rfl rfl rfl rfl (fun r4 o4 row4 cs4 m4 c4 g4 k4 => ?_)
      refine ⟨_, rfl, ?_⟩
      refine yG ?_
      refine ODS.read rfl rfl (e_loadm m4 c4 rfl rfl (part_one rfl (g4 0 (.int .i64 x.no) (by decide) (cut_get hcut (j := 0) rfl)))) rfl ?_
      refine yG ?_
      refine ODS.at (j := j) hbL hjb rfl rfl rfl rfl rfl rfl rfl (fun r5 o5 row5 cs5 m5 c5 g5 k5 => ?_)
      refine ⟨_, rfl, ?_⟩
      refine yG ?_
      refine ODS.read rfl rfl (e_loadm m5 c5 rfl rfl (part_one rfl (g5 0 (.int .i64 y.no) (by decide) (cut_get hcut' (j := 0) rfl)))) rfl ?_
      by_cases hno : x.no = y.no
      · have hnb : (!ieqB x.no y.no) = false := by rw [ieqB_eq]; simpa using hno
        rw [decide_eq_true hno, Bool.true_and] at hE
        refine yG ?_
        exact ⟨a.length - (j + 1), by omega, j + 1, rfl, by omega, hE, rfl, rfl⟩
      · have hnb : (!ieqB x.no y.no) = true := by rw [ieqB_eq]; simpa using hno
        rw [decide_eq_false hno, Bool.false_and] at hE
        rw [hE]
        refine yG ?_
        exact ⟨rfl, rfl⟩
  · have hbb : (!ileB ((a.length : Nat) : Int) (j : Nat)) = false := by rw [ileB_eq]; simp; omega
    rw [List.drop_eq_nil_of_le (by omega), List.drop_eq_nil_of_le (by omega), sameI] at hE
    rw [hE]
    refine yG ?_
    refine LS.exit ?_
    refine yG ?_
    exact ⟨rfl, rfl⟩
end
end Go.Proofs.YtllcbjaajffaeaaGreatDoor
namespace Go.Am
theorem OGS.at {P : Program} {ops : List Oper} {o : Oper} {ms : List Nat} {K : Slots → RL → Prop} {n : Nat} {pre : List Nat} {dn : Dn} {a : Slots} {L : RL} {x : Operand} {v : Value} {t e : TypeId} {i : Operand} {sz m j : Nat} {k : IntKind} {cs : List Value} (q : Nat) (hn : nextB ops ms pre q = true) (hs : SV sz L v m cs) (hj : j < m) (hq : ops[q]? = some o) (hw : wantedB ops o a = true) (ho : o.op = .indexAddr t x i) (hx : aev a x = some v) (hi : aev a i = some (.int k (j : Int)))
    (ht : P.underlying t = some (.slice e)) (hz : sizeB P e = some sz) (hk : ∀ r off row cs₀, (r, row) ∈ L → rdRow row = some cs₀ → (∀ m u, m < sz → cs[j * sz + m]? = some u → cs₀[off + m]? = some u) → (∀ us, cut cs (j * sz) sz = some us → cut cs₀ off sz = some us) →
      ∃ a₁, putAt a o.dst (.pointer (some ⟨r, off, none⟩)) = some a₁ ∧ OGS P ops ms K n (q :: pre) dn a₁ L) : OGS P ops ms K (n + 1) pre dn a L := by
  obtain ⟨r, off, row, cs₀, h1, h2, h3, h4, h5⟩ := e_at hs hj ho hx hi ht hz
  obtain ⟨a₁, ep, k'⟩ := hk r off row cs₀ h1 h2 h3 h4
  exact OGS.pure q hn hq hw h5 ep k'
end Go.Am
namespace Go.Proofs.YtllcbjaajffaeaaGreatDoor
open Go.Am Go.Pd
set_option linter.unusedVariables false
set_option maxRecDepth 20000
set_option maxHeartbeats 8000000
attribute [local irreducible] OS LSr ODS CS YS
def ItsN (l : List It) : Prop := l.length ≤ 9000000000000000 ∧ ∀ x, x ∈ l → x.args.length ≤ 9000000000000000
def DocN (d : Dc) : Prop := ItsN d.head ∧ d.secs.length ≤ 9000000000000000 ∧ ∀ y, y ∈ d.secs → ItsN y.items
section
variable {F L M M' : RL}
theorem Same12_ct {a b : Dc} {va vb : Value} (nb : Bool) (ha : DocA M va a) (hM : ∀ p, p ∈ M → p ∈ L) (hb : DocA M' vb b) (hM' : ∀ p, p ∈ M' → p ∈ L) (hn : DocN a) :
    CS Tryz.prog 13 [va, vb, .bool nb] L fun v L' => v = .bool (sameD nb a b) ∧ L' = L := by
  suffices h : CS Tryz.prog 13 [va, vb, .bool nb] L fun v L' => v = .bool (sameD nb a b) ∧ Sub L L' from h.less fun v L' ⟨h1, h2⟩ => ⟨L, h2, h1, rfl⟩
  obtain ⟨hv, sv, hcs, scs, rfl, hh, hI, hS, hSR⟩ := ha
  obtain ⟨hv', sv', hcs', scs', rfl, hh', hI', hS', hSR'⟩ := hb
  obtain ⟨hA, hc, rfl⟩ := hh.form
  obtain ⟨sA, sc, rfl⟩ := hS.form
  obtain ⟨hA', hc', rfl⟩ := hh'.form
  obtain ⟨sA', sc', rfl⟩ := hS'.form
  have hsl9 := hn.2.1
  unfold sameD
  refine CS.mk (fn := Tryz.f13) rfl rfl rfl rfl ?_
  refine yG ?_
  refine OS.fresh rfl (e_new (fun _ => rfl) rfl) (fun _ => rfl) (fun r3 => ?_)
  show OS _ _ _ _ ((r3, ARow.cells tDd [.slice hA a.head.length hc, .slice sA a.secs.length sc]) :: _) _
  refine yG ?_
  refine OS.fresh rfl (e_new (fun _ => rfl) rfl) (fun _ => rfl) (fun r4 => ?_)
  show OS _ _ _ _ ((r4, ARow.cells tDd [.slice hA' b.head.length hc', .slice sA' b.secs.length sc']) :: _) _
  refine yG ?_
  have mM : ∀ x y, ∀ p, p ∈ M → p ∈ x :: y :: L := fun x y p hp => List.mem_cons_of_mem _ (List.mem_cons_of_mem _ (hM p hp))
  have mM' : ∀ x y, ∀ p, p ∈ M' → p ∈ x :: y :: L := fun x y p hp => List.mem_cons_of_mem _ (List.mem_cons_of_mem _ (hM' p hp))
  refine OS.call noGo rfl (fun _ => rfl) ((SameItems_ct nb hh hI (mM _ _) hh' hI' (mM' _ _) hn.1.1 hn.1.2).mono ?_)
  rintro v L' ⟨rfl, rfl⟩
  rcases tf (sameI nb a.head b.head) with h1 | h1
  rotate_left
  · rw [h1]
    refine ⟨_, rfl, ?_⟩
    refine yG ?_
    exact ⟨rfl, Sub.drops 2 rfl⟩
  rw [h1, Bool.true_and]
  by_cases hl : a.secs.length = b.secs.length
  rotate_left
  · have hbl : (!ieqB ((a.secs.length : Nat) : Int) (b.secs.length : Nat)) = true := by rw [ieqB_eq]; simp; omega
    rw [sameS_len hl]
    refine ⟨_, rfl, ?_⟩
    refine yG ?_
    exact ⟨rfl, Sub.drops 2 rfl⟩
  have hbl : (!ieqB ((a.secs.length : Nat) : Int) (b.secs.length : Nat)) = false := by rw [ieqB_eq]; simp; omega
  refine ⟨_, rfl, ?_⟩
  refine yG ?_
  refine LS.loopJ [2, 3, 4, 7] (fun q s L' => ∃ j : Nat, q = a.secs.length - j ∧ j ≤ a.secs.length ∧ sameS nb a.secs b.secs = sameS nb (a.secs.drop j) (b.secs.drop j) ∧ L' = (r4, ARow.cells tDd [.slice hA' b.head.length hc', .slice sA' b.secs.length sc']) :: (r3, ARow.cells tDd [.slice hA a.head.length hc, .slice sA a.secs.length sc]) :: L ∧ s = [.chan none, .chan none, .bool nb, ptr r3, ptr r4, .chan none, .chan none, .int .i64 (j : Nat), .chan none, .chan none, .chan none, .chan none, .chan none, .chan none, .chan none, .chan none, .chan none, .chan none, .chan none, .chan none, .chan none, .chan none, .chan none, .chan none, .chan none, .chan none, .chan none, .chan none, .chan none, .chan none, .chan none, .chan none, .chan none, .chan none, .chan none, .chan none, .chan none, .chan none, .chan none, .chan none, .chan none, .chan none, .chan none, .chan none, .chan none, .chan none, .chan none, .chan none, .chan none, .chan none, .chan none, .chan none, .chan none, .chan none, .chan none, .chan none, .chan none, .chan none, .chan none, .chan none, .chan none, .chan none, .chan none, .chan none, .chan none, .chan none, .chan none, .chan none, .chan none, .chan none, .chan none, .chan none, .chan none, .chan none]) (n := a.secs.length) rfl ⟨0, rfl, by omega, rfl, rfl, rfl⟩ ?_
  rintro q s L' ⟨j, rfl, hj, hE, rfl, rfl⟩
  by_cases hjn : j < a.secs.length
  · have hbb : (!ileB ((a.secs.length : Nat) : Int) (j : Nat)) = true := by rw [ileB_eq]; simp; omega
    have hjb : j < b.secs.length := by omega
    have hxj : a.secs[j]? = some a.secs[j] := List.getElem?_eq_getElem hjn
    have hyj : b.secs[j]? = some b.secs[j] := List.getElem?_eq_getElem hjb
    have hxl := hn.2.2 _ (List.getElem_mem hjn)
    rw [List.drop_eq_getElem_cons hjn, List.drop_eq_getElem_cons hjb, sameS] at hE
    generalize a.secs[j] = x at hxj hE hxl
    generalize b.secs[j] = y at hyj hE
    obtain ⟨iv, ics, hcut, hiv, hiI⟩ := hSR.at hxj
    obtain ⟨jv, jcs, hcut', hjv, hjI⟩ := hSR'.at hyj
    obtain ⟨iA, ic, rfl⟩ := hiv.form
    obtain ⟨jA, jc, rfl⟩ := hjv.form
    have hSL := fun u w => hS.up (mM u w)
    have hSL' := fun u w => hS'.up (mM' u w)
    have mr3 : (r3, ARow.cells tDd [.slice hA a.head.length hc, .slice sA a.secs.length sc]) ∈ ((r4, ARow.cells tDd [.slice hA' b.head.length hc', .slice sA' b.secs.length sc']) :: (r3, ARow.cells tDd [.slice hA a.head.length hc, .slice sA a.secs.length sc]) :: L : RL) := List.mem_cons_of_mem _ (List.mem_cons_self ..)
    have mr4 : (r4, ARow.cells tDd [.slice hA' b.head.length hc', .slice sA' b.secs.length sc']) ∈ ((r4, ARow.cells tDd [.slice hA' b.head.length hc', .slice sA' b.secs.length sc']) :: (r3, ARow.cells tDd [.slice hA a.head.length hc, .slice sA a.secs.length sc]) :: L : RL) := List.mem_cons_self ..
    have hB1 : ∀ u : Nat × ARow, ∀ p, p ∈ ((r4, ARow.cells tDd [.slice hA' b.head.length hc', .slice sA' b.secs.length sc']) :: (r3, ARow.cells tDd [.slice hA a.head.length hc, .slice sA a.secs.length sc]) :: L : RL) → p ∈ (u :: (r4, ARow.cells tDd [.slice hA' b.head.length hc', .slice sA' b.secs.length sc']) :: (r3, ARow.cells tDd [.slice hA a.head.length hc, .slice sA a.secs.length sc]) :: L : RL) := fun u p hp => List.mem_cons_of_mem _ hp
    have hB2 : ∀ u w : Nat × ARow, ∀ p, p ∈ ((r4, ARow.cells tDd [.slice hA' b.head.length hc', .slice sA' b.secs.length sc']) :: (r3, ARow.cells tDd [.slice hA a.head.length hc, .slice sA a.secs.length sc]) :: L : RL) → p ∈ u :: w :: ((r4, ARow.cells tDd [.slice hA' b.head.length hc', .slice sA' b.secs.length sc']) :: (r3, ARow.cells tDd [.slice hA a.head.length hc, .slice sA a.secs.length sc]) :: L : RL) := fun u w p hp => List.mem_cons_of_mem _ (List.mem_cons_of_mem _ hp)
    refine yG ?_
    repeat refine LS.seq ?_
    refine LS.mid [2, 3, 4, 7, 8, 9] (fun s L' => ∃ r8 r9, s = [.chan none, .chan none, .bool nb, ptr r3, ptr r4, .chan none, .chan none, .int .i64 (j : Nat), ptr r8, ptr r9, .chan none, .chan none, .chan none, .chan none, .chan none, .chan none, .chan none, .chan none, .chan none, .chan none, .chan none, .chan none, .chan none, .chan none, .chan none, .chan none, .chan none, .chan none, .chan none, .chan none, .chan none, .chan none, .chan none, .chan none, .chan none, .chan none, .chan none, .chan none, .chan none, .chan none, .chan none, .chan none, .chan none, .chan none, .chan none, .chan none, .chan none, .chan none, .chan none, .chan none, .chan none, .chan none, .chan none, .chan none, .chan none, .chan none, .chan none, .chan none, .chan none, .chan none, .chan none, .chan none, .chan none, .chan none, .chan none, .chan none, .chan none, .chan none, .chan none, .chan none, .chan none, .chan none, .chan none, .chan none] ∧ L' = (r9, ARow.cells tZ (secC y.no y.kind y.name (.slice jA y.items.length jc))) :: (r8, ARow.cells tZ (secC x.no x.kind x.name (.slice iA x.items.length ic))) :: ((r4, ARow.cells tDd [.slice hA' b.head.length hc', .slice sA' b.secs.length sc']) :: (r3, ARow.cells tDd [.slice hA a.head.length hc, .slice sA a.secs.length sc]) :: L : RL)) ?_ ?_
    · refine LS.forked noGo mixed 14 rfl rfl (by kernel_rfl) ?_
      refine OGS.pure 0 (by kernel_rfl) rfl rfl (fun _ => rfl) rfl ?_
      refine OGS.read 1 (by kernel_rfl) rfl rfl (e_load 1 rfl rfl rfl rfl rfl) rfl ?_
      refine OGS.pure 2 (by kernel_rfl) rfl rfl (fun _ => rfl) rfl ?_
      refine OGS.at (j := j) 3 (by kernel_rfl) (hSL _ _) hjn rfl rfl rfl rfl rfl rfl rfl (fun r0 o0 row0 cs0 m0 d0 g0 k0 => ⟨_, rfl, ?_⟩)
      refine OGS.read 4 (by kernel_rfl) rfl rfl (e_loadm m0 d0 rfl rfl (part_agg rfl rfl (k0 _ hcut))) rfl ?_
      refine OGS.pure 5 (by kernel_rfl) rfl rfl (fun _ => rfl) rfl ?_
      refine OGS.read 6 (by kernel_rfl) rfl rfl (e_load 0 rfl rfl rfl rfl rfl) rfl ?_
      refine OGS.pure 7 (by kernel_rfl) rfl rfl (fun _ => rfl) rfl ?_
      refine OGS.at (j := j) 8 (by kernel_rfl) (hSL' _ _) hjb rfl rfl rfl rfl rfl rfl rfl (fun r1 o1 row1 cs1 m1 d1 g1 k1 => ⟨_, rfl, ?_⟩)
      refine OGS.read 9 (by kernel_rfl) rfl rfl (e_loadm m1 d1 rfl rfl (part_agg rfl rfl (k1 _ hcut'))) rfl ?_
      refine OGS.turn2 10 11 (by kernel_rfl) (by kernel_rfl) ?_ ?_
      · refine OT.fresh rfl rfl (e_new (fun _ => rfl) rfl) (fun _ => rfl) (fun r8 => (by repeat (first | exact Keep.nil | refine Keep.gone rfl ?_ | refine Keep.cons rfl (e_loadm (hB1 _ _ m1) d1 rfl rfl (part_agg rfl rfl (k1 _ hcut'))) ?_ | refine Keep.cons rfl (e_loadm (hB1 _ _ m0) d0 rfl rfl (part_agg rfl rfl (k0 _ hcut))) ?_ | refine Keep.cons rfl (e_loadm (hB1 _ _ mr3) rfl rfl rfl rfl) ?_ | refine Keep.cons rfl (e_loadm (hB1 _ _ mr4) rfl rfl rfl rfl) ?_))) (fun r8 => ?_)
        refine OGS.turn1 11 (by kernel_rfl) (by kernel_rfl) (OT.fresh rfl rfl (e_new (fun _ => rfl) rfl) (fun _ => rfl) (fun r9 => (by repeat (first | exact Keep.nil | refine Keep.gone rfl ?_ | refine Keep.cons rfl (e_loadm (hB2 _ _ _ m1) d1 rfl rfl (part_agg rfl rfl (k1 _ hcut'))) ?_ | refine Keep.cons rfl (e_loadm (hB2 _ _ _ m0) d0 rfl rfl (part_agg rfl rfl (k0 _ hcut))) ?_ | refine Keep.cons rfl (e_loadm (hB2 _ _ _ mr3) rfl rfl rfl rfl) ?_ | refine Keep.cons rfl (e_loadm (hB2 _ _ _ mr4) rfl rfl rfl rfl) ?_))) (fun r9 => ?_))
        refine OGS.turn1 12 (by kernel_rfl) (by kernel_rfl) (OT.write rfl rfl (e_store 1 rfl rfl rfl rfl rfl rfl rfl rfl) rfl (by repeat (first | exact Keep.nil | refine Keep.gone rfl ?_ | refine Keep.cons rfl (e_loadm (hB2 _ _ _ m1) d1 rfl rfl (part_agg rfl rfl (k1 _ hcut'))) ?_ | refine Keep.cons rfl (e_loadm (hB2 _ _ _ m0) d0 rfl rfl (part_agg rfl rfl (k0 _ hcut))) ?_ | refine Keep.cons rfl (e_loadm (hB2 _ _ _ mr3) rfl rfl rfl rfl) ?_ | refine Keep.cons rfl (e_loadm (hB2 _ _ _ mr4) rfl rfl rfl rfl) ?_)) ?_)
        refine OGS.turn1 13 (by kernel_rfl) (by kernel_rfl) (OT.write rfl rfl (e_store 0 rfl rfl rfl rfl rfl rfl rfl rfl) rfl (by repeat (first | exact Keep.nil | refine Keep.gone rfl ?_ | refine Keep.cons rfl (e_loadm (hB2 _ _ _ m1) d1 rfl rfl (part_agg rfl rfl (k1 _ hcut'))) ?_ | refine Keep.cons rfl (e_loadm (hB2 _ _ _ m0) d0 rfl rfl (part_agg rfl rfl (k0 _ hcut))) ?_ | refine Keep.cons rfl (e_loadm (hB2 _ _ _ mr3) rfl rfl rfl rfl) ?_ | refine Keep.cons rfl (e_loadm (hB2 _ _ _ mr4) rfl rfl rfl rfl) ?_)) ?_)
        exact OGS.nil (by kernel_rfl) ⟨r8, r9, rfl, rfl⟩
      · refine OT.fresh rfl rfl (e_new (fun _ => rfl) rfl) (fun _ => rfl) (fun r9 => (by repeat (first | exact Keep.nil | refine Keep.gone rfl ?_ | refine Keep.cons rfl (e_loadm (hB1 _ _ m1) d1 rfl rfl (part_agg rfl rfl (k1 _ hcut'))) ?_ | refine Keep.cons rfl (e_loadm (hB1 _ _ m0) d0 rfl rfl (part_agg rfl rfl (k0 _ hcut))) ?_ | refine Keep.cons rfl (e_loadm (hB1 _ _ mr3) rfl rfl rfl rfl) ?_ | refine Keep.cons rfl (e_loadm (hB1 _ _ mr4) rfl rfl rfl rfl) ?_))) (fun r9 => ?_)
        refine OGS.turn1 10 (by kernel_rfl) (by kernel_rfl) (OT.fresh rfl rfl (e_new (fun _ => rfl) rfl) (fun _ => rfl) (fun r8 => (by repeat (first | exact Keep.nil | refine Keep.gone rfl ?_ | refine Keep.cons rfl (e_loadm (hB2 _ _ _ m1) d1 rfl rfl (part_agg rfl rfl (k1 _ hcut'))) ?_ | refine Keep.cons rfl (e_loadm (hB2 _ _ _ m0) d0 rfl rfl (part_agg rfl rfl (k0 _ hcut))) ?_ | refine Keep.cons rfl (e_loadm (hB2 _ _ _ mr3) rfl rfl rfl rfl) ?_ | refine Keep.cons rfl (e_loadm (hB2 _ _ _ mr4) rfl rfl rfl rfl) ?_))) (fun r8 => ?_))
        refine OGS.turn1 12 (by kernel_rfl) (by kernel_rfl) (OT.write rfl rfl (e_store 0 rfl rfl rfl rfl rfl rfl rfl rfl) rfl (by repeat (first | exact Keep.nil | refine Keep.gone rfl ?_ | refine Keep.cons rfl (e_loadm (hB2 _ _ _ m1) d1 rfl rfl (part_agg rfl rfl (k1 _ hcut'))) ?_ | refine Keep.cons rfl (e_loadm (hB2 _ _ _ m0) d0 rfl rfl (part_agg rfl rfl (k0 _ hcut))) ?_ | refine Keep.cons rfl (e_loadm (hB2 _ _ _ mr3) rfl rfl rfl rfl) ?_ | refine Keep.cons rfl (e_loadm (hB2 _ _ _ mr4) rfl rfl rfl rfl) ?_)) ?_)
        refine OGS.turn1 13 (by kernel_rfl) (by kernel_rfl) (OT.write rfl rfl (e_store 1 rfl rfl rfl rfl rfl rfl rfl rfl) rfl (by repeat (first | exact Keep.nil | refine Keep.gone rfl ?_ | refine Keep.cons rfl (e_loadm (hB2 _ _ _ m1) d1 rfl rfl (part_agg rfl rfl (k1 _ hcut'))) ?_ | refine Keep.cons rfl (e_loadm (hB2 _ _ _ m0) d0 rfl rfl (part_agg rfl rfl (k0 _ hcut))) ?_ | refine Keep.cons rfl (e_loadm (hB2 _ _ _ mr3) rfl rfl rfl rfl) ?_ | refine Keep.cons rfl (e_loadm (hB2 _ _ _ mr4) rfl rfl rfl rfl) ?_)) ?_)
        refine OGS.sub (Sub.sums (A := (r9, ARow.cells tZ (secC y.no y.kind y.name (.slice jA y.items.length jc))) :: (r8, ARow.cells tZ (secC x.no x.kind x.name (.slice iA x.items.length ic))) :: ((r4, ARow.cells tDd [.slice hA' b.head.length hc', .slice sA' b.secs.length sc']) :: (r3, ARow.cells tDd [.slice hA a.head.length hc, .slice sA a.secs.length sc]) :: L : RL)) fun f => by simp [secC, tZ] <;> omega) ?_
        exact OGS.nil (by kernel_rfl) ⟨r8, r9, rfl, rfl⟩
    rintro s L' ⟨r8, r9, rfl, rfl⟩
    have hsub : ∀ u w : Nat × ARow, ∀ X : RL, Sub X (u :: w :: X) := fun u w X => Sub.drops 2 rfl
    have hfin : ∀ u w c d, Sub L (u :: w :: c :: d :: L) := fun u w c d => Sub.drops 4 rfl
    by_cases hk : x.kind = y.kind
    rotate_left
    · have hkb : (!ieqB ((x.kind.toNat : Nat) : Int) (y.kind.toNat : Nat)) = true := by rw [u8_is]; simpa using hk
      rw [decide_eq_false hk, Bool.false_and, Bool.false_and] at hE
      rw [hE]
      refine yG ?_
      exact ⟨rfl, hfin _ _ _ _⟩
    have hkb : (!ieqB ((x.kind.toNat : Nat) : Int) (y.kind.toNat : Nat)) = false := by rw [u8_is]; simpa using hk
    rw [decide_eq_true hk, Bool.true_and] at hE
    by_cases hnm : x.name = y.name
    rotate_left
    · have hnb : (!bytesEq x.name y.name) = true := by rw [beq_bytes]; simpa using hnm
      rw [decide_eq_false hnm, Bool.false_and, Bool.false_and] at hE
      rw [hE]
      refine yG ?_
      exact ⟨rfl, hfin _ _ _ _⟩
    have hnb : (!bytesEq x.name y.name) = false := by rw [beq_bytes]; simpa using hnm
    rw [decide_eq_true hnm, Bool.true_and] at hE
    have htail : ∀ b2, sameI nb x.items y.items = b2 → ((!nb || decide (x.no = y.no)) = true) → sameS nb a.secs b.secs = (b2 && sameS nb (a.secs.drop (j + 1)) (b.secs.drop (j + 1))) := fun b2 h h2 => by rw [hE, h, h2, Bool.true_and]
    have hcase : ((!nb || decide (x.no = y.no)) = true ∧ (nb = false ∨ (nb = true ∧ (!ieqB x.no y.no) = false))) ∨ (sameS nb a.secs b.secs = false ∧ nb = true ∧ (!ieqB x.no y.no) = true) := by
      cases nb with
      | false => exact .inl ⟨rfl, .inl rfl⟩
      | true =>
        by_cases hno : x.no = y.no
        · exact .inl ⟨by simp [hno], .inr ⟨rfl, by rw [ieqB_eq]; simpa using hno⟩⟩
        · refine .inr ⟨?_, rfl, by rw [ieqB_eq]; simpa using hno⟩
          rw [hE, decide_eq_false hno]; rfl
    rcases hcase with ⟨hq, hq2⟩ | ⟨hq, rfl, hnob⟩
    rotate_left
    · rw [hq]
      refine yG ?_
      exact ⟨rfl, hfin _ _ _ _⟩
    rcases hq2 with rfl | ⟨rfl, hnob⟩
    all_goals
      refine yG ?_
      refine OS.call noGo rfl (fun _ => rfl) ((SameItems_ct _ hiv hiI (fun p hp => List.mem_cons_of_mem _ (List.mem_cons_of_mem _ (mM _ _ p hp))) hjv hjI (fun p hp => List.mem_cons_of_mem _ (List.mem_cons_of_mem _ (mM' _ _ p hp))) hxl.1 hxl.2).mono ?_)
      rintro v L' ⟨rfl, rfl⟩
      refine ⟨_, rfl, ?_⟩
      generalize hs : sameI _ x.items y.items = b2
      have hE3 := htail b2 hs hq
      cases b2 with
      | false =>
        rw [Bool.false_and] at hE3
        rw [hE3]
        refine yG ?_
        exact ⟨rfl, hfin _ _ _ _⟩
      | true =>
        rw [Bool.true_and] at hE3
        refine OS.sub (hsub _ _ _) ?_
        refine yG ?_
        exact ⟨a.secs.length - (j + 1), by omega, j + 1, rfl, by omega, hE3, rfl, rfl⟩
  · have hbb : (!ileB ((a.secs.length : Nat) : Int) (j : Nat)) = false := by rw [ileB_eq]; simp; omega
    rw [List.drop_eq_nil_of_le (by omega), List.drop_eq_nil_of_le (by omega), sameS] at hE
    rw [hE]
    refine yG ?_
    refine LS.exit ?_
    refine yG ?_
    exact ⟨rfl, Sub.drops 2 rfl⟩
end
end Go.Proofs.YtllcbjaajffaeaaGreatDoor
namespace Go.Proofs.YtllcbjaajffaeaaGreatDoor
set_option linter.unusedSimpArgs false
open Go.Am Go.Pd
set_option linter.unusedVariables false
set_option maxRecDepth 20000
set_option maxHeartbeats 8000000
attribute [local irreducible] OS LSr ODS CS YS
def DocK (d : Dc) : Prop := d.head.length * 48 ≤ 140737488355328 ∧ d.secs.length * 56 ≤ 140737488355328 ∧ ∀ y, y ∈ d.secs → y.items.length * 48 ≤ 140737488355328
section
variable {F L M : RL} {d : Dc} {v : Value}
theorem back_ct (hV : DocA M v d) (hM : ∀ p, p ∈ M → p ∈ F) (hn : DocK d) : CS Tryz.prog 14 [v] F fun u L' => ∃ Z, L' = Z ++ F ∧ DocA (Z ++ F) u d := by
  suffices h : CS Tryz.prog 14 [v] F fun u L' => ∃ L₁, Sub L₁ L' ∧ ∃ Z, L₁ = Z ++ F ∧ DocA (Z ++ F) u d from h.less fun v L' h => h
  obtain ⟨hv, sv, hcs, scs, rfl, hh, hI, hS, hSR⟩ := hV
  obtain ⟨hA, hc, rfl⟩ := hh.form
  obtain ⟨sA, sc, rfl⟩ := hS.form
  obtain ⟨hn1, hn2, hn3⟩ := hn
  refine CS.mk (fn := Tryz.f14) rfl rfl rfl rfl ?_
  refine yG ?_
  refine OS.fresh rfl (e_new (fun _ => rfl) rfl) (fun _ => rfl) (fun r1 => ?_)
  show OS _ _ _ _ ((r1, ARow.cells tD [.slice hA d.head.length hc, .slice sA d.secs.length sc]) :: _) _
  refine yG ?_
  refine OS.fresh rfl (e_new (fun _ => rfl) rfl) (fun _ => rfl) (fun r2 => ?_)
  show OS _ _ _ _ ((r2, ARow.cells tDd [.slice none 0 0, .slice none 0 0]) :: _) _
  refine yG ?_
  refine OS.call noGo rfl (fun _ => rfl) ((itemsBack_ct hh hI (fun p hp => List.mem_cons_of_mem _ (List.mem_cons_of_mem _ (hM p hp))) hn1).mono ?_)
  rintro u L' ⟨hcs', hg, hI'⟩
  obtain ⟨HY, rfl, hgH⟩ := hg.split
  obtain ⟨hA', hc', rfl⟩ := hg.form
  refine ⟨_, rfl, ?_⟩
  refine yG ?_
  refine OS.fresh rfl (e_new (fun _ => rfl) rfl) (fun _ => rfl) (fun r3 => ?_)
  show OS _ _ _ _ ((r3, ARow.cells tDd [.slice none 0 0, .slice none 0 0]) :: _) _
  refine OS.sub (Sub.sums (A := (r3, ARow.cells tDd [.slice none 0 0, .slice none 0 0]) :: (r2, ARow.cells tDd [.slice none 0 0, .slice none 0 0]) :: (r1, ARow.cells tD [.slice hA d.head.length hc, .slice sA d.secs.length sc]) :: (HY ++ F)) fun f => by simp <;> omega) ?_
  refine yG ?_
  refine LS.loopJ [1, 2, 3, 4] (fun q a L' => ∃ (j : Nat) (bA : Option Addr) (bn bc : Nat) (scs' : List Value) (SY Z : RL), q = d.secs.length - j ∧ j ≤ d.secs.length ∧ GV tZ 4 [] (.slice bA bn bc) j scs' SY ∧ SecsA (Z ++ F) (d.secs.take j) scs' ∧
      L' = (r3, ARow.cells tDd [.slice hA' d.head.length hc', .slice bA bn bc]) :: (r2, ARow.cells tDd [.slice none 0 0, .slice none 0 0]) :: (r1, ARow.cells tD [.slice hA d.head.length hc, .slice sA d.secs.length sc]) :: (SY ++ (Z ++ (HY ++ F))) ∧
      a = [.chan none, ptr r1, ptr r2, ptr r3, .int .i64 (j : Nat), .chan none, .chan none, .chan none, .chan none, .chan none, .chan none, .chan none, .chan none, .chan none, .chan none, .chan none, .chan none, .chan none, .chan none, .chan none, .chan none, .chan none, .chan none, .chan none, .chan none, .chan none, .chan none, .chan none, .chan none, .chan none, .chan none, .chan none, .chan none, .chan none, .chan none, .chan none, .chan none, .chan none]) (n := d.secs.length) rfl ⟨0, none, 0, 0, [], [], [], by omega, by omega, .nil, rfl, rfl, rfl⟩ ?_
  rintro q a L' ⟨j, bA, bn, bc, scs', SY, Z, rfl, hj, hgS, hSA, rfl, rfl⟩
  by_cases hjn : j < d.secs.length
  · have hb : (!ileB ((d.secs.length : Nat) : Int) (j : Nat)) = true := by rw [ileB_eq]; simp; omega
    have hxj : d.secs[j]? = some d.secs[j] := List.getElem?_eq_getElem hjn
    have hsn : d.secs.take (j + 1) = d.secs.take j ++ [d.secs[j]] := Go.Pd.take_one hxj
    have hn3x := hn3 _ (List.getElem_mem hjn)
    generalize d.secs[j] = x at hxj hsn hn3x
    obtain ⟨iv, ics, hcut, hiv, hiI⟩ := hSR.at hxj
    obtain ⟨iA, ic, rfl⟩ := hiv.form
    have hSL := hS.up (G := (r3, ARow.cells tDd [.slice hA' d.head.length hc', .slice bA bn bc]) :: (r2, ARow.cells tDd [.slice none 0 0, .slice none 0 0]) :: (r1, ARow.cells tD [.slice hA d.head.length hc, .slice sA d.secs.length sc]) :: (SY ++ (Z ++ (HY ++ F)))) fun p hp => by simp [hM p hp]
    have hlen := hSA.len
    refine yG ?_
    refine OS.at (j := j) hSL hjn rfl rfl rfl rfl rfl rfl (fun r0 o0 row0 cs0 m0 c0 g0 k0 => ?_)
    refine ⟨_, rfl, ?_⟩
    refine yG ?_
    refine OS.read rfl (e_loadm m0 c0 rfl rfl (part_agg rfl rfl (k0 _ hcut))) rfl ?_
    refine yG ?_
    refine OS.fresh rfl (e_new (fun _ => rfl) rfl) (fun _ => rfl) (fun r5 => ?_)
    show OS _ _ _ _ ((r5, ARow.cells tS [.int .i64 0, .int .u8 0, str [], .slice none 0 0]) :: _) _
    refine yG ?_
    repeat refine LS.seq ?_
    refine LS.drawn noGo mixed [(0, false), (1, false), (2, false), (3, false), (4, false), (5, false), (6, false), (7, false), (8, false), (9, false), (10, true), (11, false), (12, true), (13, true), (14, false), (15, true)] rfl rfl (by kernel_rfl) ?_
    refine yG ?_
    refine ODS.call rfl rfl (fun _ => rfl) ((itemsBack_ct hiv hiI (fun p hp => by simp [hM p hp]) hn3x).mono ?_)
    rintro u L' ⟨jcs, hgj, hjI⟩
    obtain ⟨IY, rfl, hgJ⟩ := hgj.split
    obtain ⟨jA, jc, rfl⟩ := hgj.form
    refine ⟨_, rfl, ?_, ?_⟩
    · exact Keep.gone rfl (Keep.cons rfl (e_loadm (r := r5) (List.mem_append_right _ (List.mem_cons_self ..)) rfl rfl rfl rfl) (Keep.cons rfl (e_loadm (r := r5) (List.mem_append_right _ (List.mem_cons_self ..)) rfl rfl rfl rfl) (Keep.cons rfl (e_loadm (r := r5) (List.mem_append_right _ (List.mem_cons_self ..)) rfl rfl rfl rfl) (Keep.cons rfl (e_loadm (r := r3) (List.mem_append_right _ (List.mem_cons_of_mem _ (List.mem_cons_self ..))) rfl rfl rfl rfl) Keep.nil))))
    refine ODS.sub (Sub.sums (A := (r3, ARow.cells tDd [.slice hA' d.head.length hc', .slice bA bn bc]) :: (r5, ARow.cells tS [.int .i64 x.no, .int .u8 (x.kind.toNat : Nat), str x.name, .slice iA x.items.length ic]) :: (r2, ARow.cells tDd [.slice none 0 0, .slice none 0 0]) :: (r1, ARow.cells tD [.slice hA d.head.length hc, .slice sA d.secs.length sc]) :: (SY ++ (IY ++ (Z ++ (HY ++ F))))) fun f => by simp [secC] <;> omega) ?_
    refine yG ?_
    refine ODS.fresh rfl rfl (e_new (fun _ => rfl) rfl) (fun _ => rfl) (fun _ => Keep.gone rfl (Keep.gone rfl (Keep.gone rfl (Keep.gone rfl (Keep.cons rfl (e_load 1 rfl rfl rfl rfl rfl) Keep.nil))))) (fun rt => ?_)
    refine ODS.fresh rfl rfl (e_appendGV [(rt, _), (r3, _), (r5, _), (r2, _), (r1, _)] (e := tZ) (sz := 4) (bts := 56) (m := 1) (hgS.appendR (IY ++ (Z ++ (HY ++ F)))) (SV.row (sz := 4) (n := 1) (List.mem_cons_self ..) rfl) (by omega) rfl rfl rfl rfl (by omega) (by omega)) (fun _ => rfl) (fun _ => Keep.gone rfl (Keep.gone rfl (Keep.gone rfl (Keep.gone rfl (Keep.gone rfl Keep.nil))))) (fun r6 => ?_)
    refine yG ?_
    refine ODS.write rfl rfl (e_store 2 rfl rfl rfl rfl rfl rfl rfl rfl) rfl (Keep.gone rfl (Keep.gone rfl (Keep.gone rfl (Keep.gone rfl (Keep.gone rfl Keep.nil))))) ?_
    refine ODS.sub (Sub.trans (Sub.sums (A := (r3, ARow.cells tDd [.slice hA' d.head.length hc', .slice (some ⟨r6, 0, none⟩) (j + 1) openCap]) :: (r2, ARow.cells tDd [.slice none 0 0, .slice none 0 0]) :: (r1, ARow.cells tD [.slice hA d.head.length hc, .slice sA d.secs.length sc]) :: ([(r6, .cells tZ (scs' ++ secC x.no x.kind x.name (.slice jA x.items.length jc)))] ++ ((IY ++ Z) ++ (HY ++ F)))) fun f => by simp [secC] <;> omega) (Sub.trans (Sub.drop 2 rfl) (Sub.drop 1 rfl))) ?_
    refine yG ?_
    have mI : ∀ p, p ∈ IY → p ∈ (IY ++ Z) ++ F := fun p hp => by simp [hp]
    have mZ : ∀ p, p ∈ Z ++ F → p ∈ (IY ++ Z) ++ F := fun p hp => by rw [List.append_assoc]; exact List.mem_append_right _ hp
    exact ⟨d.secs.length - (j + 1), by omega, j + 1, _, _, _, _, _, IY ++ Z, rfl, by omega, .of (by simp [hlen, List.length_take]; omega), by rw [hsn]; exact (hSA.mono mZ).snoc ⟨hgJ.sv.up mI, hjI.mono fun p hp => by simp [hM p hp]⟩, rfl, rfl⟩
  · have hb : (!ileB ((d.secs.length : Nat) : Int) (j : Nat)) = false := by rw [ileB_eq]; simp; omega
    rw [List.take_of_length_le (by omega)] at hSA
    obtain rfl : j = d.secs.length := by omega
    refine yG ?_
    refine LS.exit ?_
    refine yG ?_
    refine LS.ret ⟨_, res_cell 1 rfl rfl rfl rfl, ?_⟩
    refine ⟨SY ++ (Z ++ (HY ++ F)), Sub.drops 3 rfl, SY ++ (Z ++ HY), by simp, _, _, hcs', scs', rfl, hgH.sv.up fun p hp => by simp [hp], hI'.mono fun p hp => by simp [hM p hp], hgS.sv.up fun p hp => by simp [hp], hSA.mono fun p hp => ?_⟩
    rcases List.mem_append.1 hp with h | h <;> simp [h]
end
end Go.Proofs.YtllcbjaajffaeaaGreatDoor
