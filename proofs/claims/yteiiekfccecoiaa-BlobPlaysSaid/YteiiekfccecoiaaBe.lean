/- Layer 8: what stands on a value's blocks. -/
import Derived.Test.YteiiekfccecoiaaBd
namespace Go.Am
theorem count_sum [DecidableEq (Nat × ARow)] (x : Nat × ARow) : ∀ l : RL, l.count x = (l.map fun y => if y = x then 1 else 0).sum
  | [] => rfl
  | y :: l => by
    rw [List.count_cons, count_sum x l, List.map_cons, List.sum_cons]
    by_cases h : y = x <;> simp [h] <;> omega
/-- The same rows, in another order, and others. -/
theorem Sub.sums2 (D : RL) {A B : RL} (h : ∀ f : Nat × ARow → Nat, (B.map f).sum = (A.map f).sum + (D.map f).sum) : Sub A B := by
  classical
  refine ⟨D, ?_⟩
  letI : BEq (Nat × ARow) := ⟨fun a b => decide (a = b)⟩
  haveI : LawfulBEq (Nat × ARow) := { eq_of_beq := fun h => of_decide_eq_true h, rfl := decide_eq_true rfl }
  rw [List.perm_iff_count]
  intro x
  rw [List.count_append, count_sum, count_sum, count_sum]
  exact h _
theorem Sub.sums {A B : RL} (h : ∀ f : Nat × ARow → Nat, (B.map f).sum = (A.map f).sum) : Sub A B := Sub.sums2 [] fun f => by rw [h f]; simp
section
variable {P : Program} {o : Oper} {a : Slots} {x : Operand}
theorem e_cutC {t e : TypeId} {lo hi : Option Operand} {lo' hi' : Option Value} {r off n cap sz l u : Nat} (ho : o.op = .slice t x lo hi none) (hx : aev a x = some (.slice (some ⟨r, off, none⟩) n cap)) (hlo : optEv a lo = some lo') (hhi : optEv a hi = some hi') (bl : boundB lo' 0 = some l) (bu : boundB hi' n = some u)
    (ht : P.underlying t = some (.slice e)) (hz : sizeB P e = some sz) (hc : cap < openCap) (hu : u ≤ cap) (hl : l ≤ u) : ∀ h, opB P a o h = some (.val (.slice (some ⟨r, off + l * sz, none⟩) (u - l) (cap - l)) h) := by
  intro h
  have hcb : Nat.beq cap openCap = false := beq_false (by omega)
  have hm' : optEv a none = some none := rfl
  have h3 : Nat.ble u (farB n cap) = true := by unfold farB; rw [hcb]; simp only; exact Nat.ble_eq_true_of_le (by omega)
  have h4 : Nat.ble l u = true := Nat.ble_eq_true_of_le hl
  have h5 : rowOk h e (some ⟨r, off, none⟩) cap = true := by unfold rowOk; rw [hcb]; simp only; exact Nat.ble_eq_true_of_le (by omega)
  simp only [opB, ho, hx, hlo, hhi, hm', sliceB, ht, bu, bl, hz, h3, h4, h5, Bool.and_self, moved, hcb, ret]
end
end Go.Am
namespace Go.Proofs.Yteiiekfccecoiaa
open Go.Am
set_option linter.unusedVariables false
set_option maxRecDepth 20000

abbrev ints (l : List Nat) : List Value := l.map fun i => .int .i64 (i : Nat)
/-- The rows of blocks' bytes. -/
def bR (rs : List Nat) (bs : List (List UInt8)) : RL := (rs.zip bs).map fun p => (p.1, .cells 5 (byteCells p.2))
theorem bR_snoc {rs : List Nat} {bs : List (List UInt8)} (h : rs.length = bs.length) (r : Nat) (b : List UInt8) : bR (rs ++ [r]) (bs ++ [b]) = bR rs bs ++ [(r, .cells 5 (byteCells b))] := by
  unfold bR; rw [List.zip_append h]; simp
theorem bR_rd {rs : List Nat} {bs : List (List UInt8)} (h : rs.length = bs.length) (h2 : ∀ b ∈ bs, b.length = 256) : Rd (bR rs bs) rs bs :=
  ⟨h, fun k r b h3 h4 => ⟨h2 b (List.mem_of_getElem? h4), 5, List.mem_map.2 ⟨(r, b), List.mem_of_getElem? (i := k) (by rw [List.getElem?_zip_eq_some]; exact ⟨h3, h4⟩), rfl⟩⟩⟩
/-- What stands on a value's block k, the size and the sum aside. -/
def imgZ (l : List Nat) (data : List UInt8) (k : Nat) : List UInt8 := leB 2 (linkB l k) ++ (List.replicate (dAt k - 2) 0 ++ bodyB data k)
theorem imgZ_len (l : List Nat) (data : List UInt8) (k : Nat) : (imgZ l data k).length = 256 := by
  have := dAt_cases k
  unfold imgZ; simp [bodyB_len]; omega
theorem imgZ_pos {l : List Nat} {data : List UInt8} {k : Nat} (h : 0 < k) : imgZ l data k = imgB l data 0 k := by
  have := dAt_cases k
  unfold imgZ imgB hdB; rw [if_neg (by omega), show dAt k - 2 = 0 by omega]; simp
theorem leB_zero (m : Nat) : leB m 0 = List.replicate m 0 := by
  induction m with
  | zero => rfl
  | succ m ih => rw [leB_succ, ih, List.replicate_succ']; simp
theorem imgZ_size (l : List Nat) (data : List UInt8) : (imgZ l data 0).take 2 ++ (leB 3 data.length ++ (imgZ l data 0).drop (2 + 3)) = imgB l data 0 0 := by
  have e : imgZ l data 0 = leB 2 (linkB l 0) ++ (List.replicate 3 0 ++ (List.replicate 8 0 ++ bodyB data 0)) := by
    unfold imgZ; rw [← List.append_assoc (List.replicate 3 0), List.replicate_append_replicate]; rfl
  have e3 : (imgZ l data 0).drop (2 + 3) = List.replicate 8 0 ++ bodyB data 0 := by rw [e, ← List.append_assoc, List.drop_left' (by simp)]
  rw [e3, e, List.take_left' (by simp), imgB_zero, leB_zero]
  simp
theorem imgB_sum (l : List Nat) (data : List UInt8) (s : Nat) : (imgB l data 0 0).take 5 ++ (leB 8 s ++ (imgB l data 0 0).drop (5 + 8)) = imgB l data s 0 := by
  rw [imgB_front, imgB_back, imgB_zero]
theorem imgZ_made {l : List Nat} {data : List UInt8} {k : Nat} {D : List UInt8} (hD : D = (List.replicate 256 0).take 0 ++ (leB 2 (linkB l k) ++ (List.replicate 256 0).drop (0 + 2))) : D.take (0 + dAt k * 1) ++ (partB data k ++ D.drop (0 + dAt k * 1 + (partB data k).length)) = imgZ l data k := by
  have hd := dAt_cases k
  have hp := partB_le data k
  have e : D = leB 2 (linkB l k) ++ (List.replicate (dAt k - 2) 0 ++ List.replicate (256 - dAt k) 0) := by
    rw [hD, List.replicate_append_replicate, show dAt k - 2 + (256 - dAt k) = 254 by omega]; simp
  have e2 : leB 2 (linkB l k) ++ (List.replicate (dAt k - 2) (0 : UInt8) ++ List.replicate (256 - dAt k) 0) = (leB 2 (linkB l k) ++ List.replicate (dAt k - 2) 0) ++ List.replicate (256 - dAt k) 0 := by simp
  have hl : (leB 2 (linkB l k) ++ List.replicate (dAt k - 2) (0 : UInt8)).length = dAt k := by simp; omega
  rw [e, e2, Nat.zero_add, Nat.mul_one, List.take_left' hl, List.drop_append, List.drop_of_length_le (by omega), hl, Nat.add_sub_cancel_left]
  unfold imgZ bodyB
  simp
theorem makeT_sls : makeT Try.prog 84 = some (73, 1, 24, [.slice none 0 0]) := by kernel_rfl

theorem images_ct {L : RL} {lv : Value} {l : List Nat} {data : List UInt8} {n : Nat} (hl : SV 1 L lv n (ints l)) (h0 : 0 < n) (hn : n ≤ 1000000) (hx : ∀ x ∈ l, x < 65536) (hd : data.length < 16777216) :
    CS Try.prog 42 [lv, txt data] L fun v L' => ∃ ra rs, v = .slice (some ⟨ra, 0, none⟩) n n ∧ rs.length = n ∧ L' = (ra, .cells 73 (rs.map bv)) :: (bR rs (imgs l data (sumV l data)) ++ L) := by
  have hln : l.length = n := by have := hl.len; simp at this; exact this
  suffices h : CS Try.prog 42 [lv, txt data] L fun v L' => ∃ x ra rs, v = .slice (some ⟨ra, 0, none⟩) n n ∧ rs.length = n ∧ L' = x :: (ra, .cells 73 (rs.map bv)) :: (bR rs (imgs l data (sumV l data)) ++ L) by
    exact h.less fun v L' ⟨x, ra, rs, h1, h2, h3⟩ => ⟨_, by rw [h3]; exact Sub.tail, ra, rs, h1, h2, rfl⟩
  refine CS.mk (fn := Try.f42) rfl rfl rfl rfl ?_
  repeat refine LS.seq ?_
  refine LS.region rfl ?_
  refine OS.pure rfl (fun _ => rfl) rfl ?_
  refine OS.nil ?_
  repeat refine LS.seq ?_
  refine LS.region rfl ?_
  refine OS.pure rfl (fun _ => rfl) rfl ?_
  refine OS.pure rfl (e_len hl rfl rfl rfl rfl rfl) rfl ?_
  refine OS.fresh rfl (e_make (l := n) (c := n) rfl rfl rfl makeT_sls (Nat.le_refl _) (by omega) (by omega)) (fun _ => rfl) (fun ra => ?_)
  rw [repL_one]
  refine OS.pure rfl (fun _ => rfl) rfl ?_
  refine OS.nil ?_
  repeat refine LS.seq ?_
  refine LS.region rfl ?_
  refine OS.pure rfl (fun _ => rfl) rfl ?_
  refine OS.pure rfl (fun _ => rfl) rfl ?_
  refine OS.pure rfl (e_len hl rfl rfl rfl rfl rfl) rfl ?_
  refine OS.call noGo rfl (fun _ => rfl) ((parts_ct data n (by omega) hn).mono ?_)
  rintro v L' ⟨rp, rfl, rfl⟩
  refine ⟨_, rfl, ?_⟩
  refine OS.pure rfl (fun _ => rfl) rfl ?_
  refine OS.pure rfl (fun _ => rfl) rfl ?_
  refine OS.sub (Sub.pulls [1] rfl) ?_
  refine OS.nil ?_
  have hL1 : ∀ (X : RL) (p : Nat × ARow), p ∈ L → p ∈ X ++ L := fun X p hp => List.mem_append_right _ hp
  repeat refine LS.seq ?_
  refine LS.mid [1, 5] (fun a L' => ∃ rs, rs.length = n ∧ L' = (ra, .cells 73 (rs.map bv)) :: (rp, .cells 9 (ptsV data n)) :: (bR rs ((List.range n).map (imgZ l data)) ++ L) ∧ a = [.chan none, txt data, .chan none, .chan none, .chan none, .slice (some ⟨ra, 0, none⟩) n n, .chan none, .chan none, .chan none, .chan none, .chan none, .chan none, .chan none, .chan none, .chan none, .chan none, .chan none, .chan none, .chan none, .chan none, .chan none, .chan none, .chan none, .chan none, .chan none, .chan none, .chan none, .chan none, .chan none, .chan none, .chan none, .chan none, .chan none, .chan none, .chan none, .chan none, .chan none, .chan none, .chan none, .chan none, .chan none, .chan none, .chan none, .chan none, .chan none, .chan none, .chan none, .chan none, .chan none, .chan none, .chan none, .chan none, .chan none, .chan none, .chan none, .chan none, .chan none, .chan none, .chan none, .chan none, .chan none, .chan none]) ?_ ?_
  · refine LS.block ?_
    refine LS.loopJ [0, 1, 5, 16, 17, 18] (fun q a L' => ∃ i rs, q = n - i ∧ i ≤ n ∧ rs.length = i ∧ L' = (ra, .cells 73 (rs.map bv ++ List.replicate (n - i) (.slice none 0 0))) :: (rp, .cells 9 (ptsV data n)) :: (bR rs ((List.range i).map (imgZ l data)) ++ L) ∧
      a = [lv, txt data, .chan none, .chan none, .chan none, .slice (some ⟨ra, 0, none⟩) n n, .chan none, .chan none, .chan none, .chan none, .chan none, .chan none, .chan none, .chan none, .chan none, .chan none, .slice (some ⟨rp, 0, none⟩) n n, .int .i64 (n : Nat), .int .i64 (i : Nat), .chan none, .chan none, .chan none, .chan none, .chan none, .chan none, .chan none, .chan none, .chan none, .chan none, .chan none, .chan none, .chan none, .chan none, .chan none, .chan none, .chan none, .chan none, .chan none, .chan none, .chan none, .chan none, .chan none, .chan none, .chan none, .chan none, .chan none, .chan none, .chan none, .chan none, .chan none, .chan none, .chan none, .chan none, .chan none, .chan none, .chan none, .chan none, .chan none, .chan none, .chan none, .chan none, .chan none]) (n := n) rfl ⟨0, [], rfl, by omega, rfl, rfl, rfl⟩ ?_
    rintro q a L' ⟨i, rs, rfl, hi, hrl, rfl, rfl⟩
    repeat refine LS.seq ?_
    refine LS.region rfl ?_
    refine OS.pure rfl (fun _ => rfl) rfl ?_
    refine OS.nil ?_
    repeat refine LS.seq ?_
    refine LS.cond rfl (fun hc => ?_) (fun hc => ?_)
    · have hc : (i : Int) < n := lt_of hc
      have hin : i < n := by omega
      have hd2 := dAt_cases i
      have hmod : (i + 1) % n < n := Nat.mod_lt _ h0
      have hlk : l[(i + 1) % n]? = some (linkB l i) := by
        unfold linkB; rw [hln, List.getElem?_eq_getElem (by omega)]; rfl
      have hlk2 : linkB l i < 65536 := hx _ (List.mem_of_getElem? hlk)
      have hpt : (ptsV data n)[0 + i * 1]? = some (txt (partB data i)) := by simp [ptsV, hin]
      refine LS.skip ?_
      repeat refine LS.seq ?_
      refine LS.block ?_
      repeat refine LS.seq ?_
      refine LS.region rfl ?_
      refine OS.pure rfl (fun _ => rfl) rfl ?_
      refine OS.pure rfl (e_index (j := i) (sz := 1) rfl rfl rfl rfl rfl hin) rfl ?_
      refine OS.read rfl (e_load 1 rfl rfl rfl rfl (part_one rfl hpt)) rfl ?_
      refine OS.pure rfl (fun _ => rfl) rfl ?_
      refine OS.pure rfl (fun _ => rfl) rfl ?_
      refine OS.nil ?_
      repeat refine LS.seq ?_
      refine LS.region rfl ?_
      refine OS.fresh rfl (e_make (l := 256) (c := 256) rfl rfl rfl makeT_bytes (Nat.le_refl _) (by omega) (by omega)) (fun _ => rfl) (fun rn => ?_)
      rw [repL_u8]
      refine OS.pure rfl (fun _ => rfl) rfl ?_
      refine OS.nil ?_
      repeat refine LS.seq ?_
      refine LS.drawn noGo mixed [(0, false), (1, false), (2, false), (3, false), (4, false), (5, false), (6, false), (7, false), (8, false), (9, false), (10, false), (11, true)] rfl rfl (by kernel_rfl) ?_
      refine ODS.pure rfl rfl (fun _ => rfl) rfl ?_
      refine ODS.pure rfl rfl (fun _ => rfl) rfl ?_
      refine ODS.pure rfl rfl (fun _ => rfl) rfl ?_
      refine ODS.pure rfl rfl (fun _ => rfl) rfl ?_
      refine ODS.pure rfl rfl (e_is (e_add (k := .i64) (m := ((i : Nat) : Int)) (n := 1) rfl rfl rfl (in_i64 (by omega) (by omega))) (congrArg (Value.int .i64) (show ((i : Nat) : Int) + 1 = ((i + 1 : Nat) : Int) by omega))) rfl ?_
      refine ODS.pure rfl rfl (fun _ => rfl) rfl ?_
      refine ODS.pure rfl rfl (e_len hl rfl rfl rfl rfl rfl) rfl ?_
      refine ODS.pure rfl rfl (e_rem (m := i + 1) (n := n) rfl rfl rfl (by omega)) rfl ?_
      refine ODS.at1 (j := (i + 1) % n) ((hl.mono (fun p hp => List.mem_cons_of_mem _ (List.mem_cons_of_mem _ (List.mem_cons_of_mem _ (hL1 _ p hp)))))) ((show _ = some (Value.int .i64 (linkB l i : Nat)) by simp [hlk])) rfl rfl rfl rfl rfl rfl rfl (fun ra0 oa0 rowa0 csa0 ma0 ca0 ga0 => ⟨_, rfl, ?_⟩)
      refine ODS.read rfl rfl (e_loadm ma0 ca0 rfl rfl (part_one rfl ga0)) rfl ?_
      refine ODS.pure rfl rfl (e_conv (k' := .u64) rfl rfl rfl rfl (in_u64 (by omega) (by omega))) rfl ?_
      refine ODS.call rfl rfl (fun _ => rfl) ((setNumber_ct (off := 0) (m := 2) (v := linkB l i) (D := List.replicate 256 0) (by omega) (by omega) (by simp)).mono ?_)
      rintro v L' rfl
      generalize hD : (List.replicate 256 (0 : UInt8)).take 0 ++ (leB 2 (linkB l i) ++ (List.replicate 256 0).drop (0 + 2)) = D
      have hDl : D.length = 256 := by rw [← hD]; simp
      refine ⟨_, rfl, Keep.gone rfl Keep.nil, ?_⟩
      refine ODS.nil ?_
      repeat refine LS.seq ?_
      refine LS.region rfl ?_
      refine OS.pure rfl (fun _ => rfl) rfl ?_
      refine OS.pure rfl (fun _ => rfl) rfl ?_
      refine OS.call noGo rfl (fun _ => rfl) ((dataAt_ct i).mono ?_)
      rintro v L' ⟨rfl, rfl⟩
      refine ⟨_, rfl, ?_⟩
      refine OS.pure rfl (e_cutC (l := dAt i) (u := 256) (sz := 1) rfl rfl rfl rfl bound_nat rfl rfl rfl (by decide) (Nat.le_refl _) (by omega)) rfl ?_
      refine OS.pure rfl (fun _ => rfl) rfl ?_
      refine OS.write rfl (e_copyT 0 (D := D) (s := partB data i) (partB_le data i) (by have := partB_le data i; omega) rfl rfl rfl rfl rfl rfl rfl rfl) rfl ?_
      rw [imgZ_made hD.symm]
      refine OS.nil ?_
      repeat refine LS.seq ?_
      refine LS.region rfl ?_
      refine OS.pure rfl (fun _ => rfl) rfl ?_
      refine OS.pure rfl (fun _ => rfl) rfl ?_
      refine OS.pure rfl (fun _ => rfl) rfl ?_
      refine OS.pure rfl (e_index (j := i) (sz := 1) rfl rfl rfl rfl rfl hin) rfl ?_
      rw [Nat.mul_one, Nat.zero_add]
      refine OS.write rfl (e_store 1 (n := 1) rfl rfl rfl rfl rfl rfl (lay_one (by simp; omega)) rfl) rfl ?_
      have hset : (rs.map bv ++ List.replicate (n - i) (Value.slice none 0 0)).set i (bv rn) = (rs ++ [rn]).map bv ++ List.replicate (n - (i + 1)) (Value.slice none 0 0) := by
        rw [List.set_append_right _ _ (by simp; omega), List.length_map, hrl, Nat.sub_self, show n - i = (n - (i + 1)) + 1 by omega, List.replicate_succ, List.set_cons_zero]
        simp
      rw [hset]
      have hbR : bR (rs ++ [rn]) ((List.range (i + 1)).map (imgZ l data)) = bR rs ((List.range i).map (imgZ l data)) ++ [(rn, .cells 5 (byteCells (imgZ l data i)))] := by
        rw [List.range_succ, List.map_append]; exact bR_snoc (by simp [hrl]) _ _
      refine OS.sub (Sub.sums (A := (ra, .cells 73 ((rs ++ [rn]).map bv ++ List.replicate (n - (i + 1)) (.slice none 0 0))) :: (rp, .cells 9 (ptsV data n)) :: (bR (rs ++ [rn]) ((List.range (i + 1)).map (imgZ l data)) ++ L)) fun f => by rw [hbR]; simp; omega) ?_
      refine OS.nil ?_
      repeat refine LS.seq ?_
      refine LS.region rfl ?_
      refine OS.pure rfl (e_add rfl rfl rfl (in_i64 (by omega) (by omega))) rfl ?_
      refine OS.pure rfl (fun _ => rfl) rfl ?_
      refine OS.nil ?_
      exact ⟨n - (i + 1), by omega, i + 1, rs ++ [rn], rfl, by omega, by simp [hrl], rfl, rfl⟩
    have hc : (n : Int) ≤ i := nlt_of hc
    have hin : i = n := by omega
    subst hin
    refine LS.exit ?_
    exact ⟨rs, hrl, by rw [Nat.sub_self]; simp, rfl⟩
  rintro a L' ⟨rs, hrl, rfl, rfl⟩
  obtain ⟨r0, rs', rfl⟩ : ∃ r rs', rs = r :: rs' := by cases rs with | nil => simp at hrl; omega | cons r rs => exact ⟨r, rs, rfl⟩
  obtain ⟨T, hT, hTl, hT2⟩ : ∃ T, (List.range n).map (imgZ l data) = imgZ l data 0 :: T ∧ T.length = rs'.length ∧ ∀ s, imgs l data s = imgB l data s 0 :: T := by
    refine ⟨(List.range' 1 (n - 1)).map (imgZ l data), ?_, by simp at hrl ⊢; omega, fun s => ?_⟩
    · rw [List.range_eq_range', show n = (n - 1) + 1 by omega, List.range'_succ]; simp
    · rw [imgs_cons (by omega), hln]
      congr 1
      apply List.map_congr_left
      intro k hk
      rw [List.mem_range'_1] at hk
      rw [imgB_pos (by omega), imgZ_pos (by omega)]
  have hTb : ∀ b ∈ T, b.length = 256 := fun b hb => by
    have : b ∈ (List.range n).map (imgZ l data) := by rw [hT]; exact List.mem_cons_of_mem _ hb
    obtain ⟨k, _, rfl⟩ := List.mem_map.1 this
    exact imgZ_len ..
  have hbc : ∀ b : List UInt8, bR (r0 :: rs') (b :: T) = (r0, .cells 5 (byteCells b)) :: bR rs' T := fun b => rfl
  rw [hT, hbc]
  refine LS.sub (Sub.pulls [2] rfl) ?_
  repeat refine LS.seq ?_
  refine LS.region rfl ?_
  refine OS.pure rfl (fun _ => rfl) rfl ?_
  refine OS.pure rfl (e_index (j := 0) (sz := 1) rfl rfl rfl rfl rfl h0) rfl ?_
  refine OS.read rfl (e_load 1 rfl rfl rfl rfl (part_one rfl (show _ = some (bv r0) from rfl))) rfl ?_
  refine OS.pure rfl (fun _ => rfl) rfl ?_
  refine OS.nil ?_
  repeat refine LS.seq ?_
  refine LS.region rfl ?_
  refine OS.pure rfl (fun _ => rfl) rfl ?_
  refine OS.pure rfl (fun _ => rfl) rfl ?_
  refine OS.pure rfl (fun _ => rfl) rfl ?_
  refine OS.pure rfl (fun _ => rfl) rfl ?_
  refine OS.pure rfl (e_conv (n := ((data.length : Nat) : Int)) (k' := .u64) rfl rfl rfl rfl (in_u64 (by omega) (by omega))) rfl ?_
  refine OS.call noGo rfl (fun _ => rfl) ((setNumber_ct (off := 2) (m := 3) (v := data.length) (D := imgZ l data 0) (by omega) (by omega) (by rw [imgZ_len]; omega)).mono ?_)
  rintro v L' rfl
  rw [imgZ_size]
  refine ⟨_, rfl, ?_⟩
  refine OS.nil ?_
  have hrd : ∀ X, Rd ((r0, .cells 5 (byteCells (imgB l data 0 0))) :: (ra, .cells 73 ((r0 :: rs').map bv)) :: (rp, .cells 9 (ptsV data n)) :: (bR rs' T ++ X)) (r0 :: rs') (imgs l data 0) := fun X => by
    rw [hT2]
    have := bR_rd (rs := r0 :: rs') (bs := imgB l data 0 0 :: T) (by simp [hTl]) (by
      intro b hb
      rcases List.mem_cons.1 hb with rfl | hb
      · exact imgB_len ..
      · exact hTb b hb)
    rw [hbc] at this
    exact this.mono (fun p hp => by
      rcases List.mem_cons.1 hp with rfl | hp
      · exact List.mem_cons_self ..
      · exact List.mem_cons_of_mem _ (List.mem_cons_of_mem _ (List.mem_cons_of_mem _ (List.mem_append_left _ hp))))
  have hav : ∀ X, AV ((r0, .cells 5 (byteCells (imgB l data 0 0))) :: (ra, .cells 73 ((r0 :: rs').map bv)) :: (rp, .cells 9 (ptsV data n)) :: (bR rs' T ++ X)) (.slice (some ⟨ra, 0, none⟩) n n) n (r0 :: rs') :=
    fun X => ⟨ra, n, rfl, by simp, hrl, .inr ⟨Nat.le_refl _, by unfold openCap; omega⟩⟩
  repeat refine LS.seq ?_
  refine LS.drawn noGo mixed [(0, false), (1, false), (2, false), (3, true), (4, true)] rfl rfl (by kernel_rfl) ?_
  refine ODS.pure rfl rfl (fun _ => rfl) rfl ?_
  refine ODS.pure rfl rfl (fun _ => rfl) rfl ?_
  refine ODS.pure rfl rfl (fun _ => rfl) rfl ?_
  refine ODS.call rfl rfl (fun _ => rfl) ((sumOf_ct (hav L) (hrd L) h0 hn).mono ?_)
  rintro v L' ⟨rfl, rfl⟩
  rw [← sumV_is]
  refine ⟨_, rfl, Keep.nil, ?_⟩
  refine ODS.call rfl rfl (fun _ => rfl) ((setNumber_ct (off := 5) (m := 8) (v := sumV l data) (D := imgB l data 0 0) (by omega) (sumV_lt ..) (by rw [imgB_len]; omega)).mono ?_)
  rintro v L' rfl
  rw [imgB_sum]
  refine ⟨_, rfl, Keep.nil, ?_⟩
  refine ODS.nil ?_
  refine LS.sub (Sub.pulls [1, 2] rfl) ?_
  repeat refine LS.seq ?_
  refine LS.region rfl ?_
  refine OS.pure rfl (fun _ => rfl) rfl ?_
  refine OS.pure rfl (fun _ => rfl) rfl ?_
  refine OS.nil ?_
  refine LS.ret ⟨_, fun _ _ => rfl, ?_⟩
  exact ⟨_, ra, r0 :: rs', rfl, hrl, by rw [hT2, hbc]; rfl⟩
end Go.Proofs.Yteiiekfccecoiaa
