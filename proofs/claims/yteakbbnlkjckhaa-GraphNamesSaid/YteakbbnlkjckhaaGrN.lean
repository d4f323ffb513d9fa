/- Layer 15: rowOf, Sort. -/
import Derived.Test.YteakbbnlkjckhaaGrM
namespace Go.Am
theorem setL_mid : ∀ (X : RL) (y z : Nat × ARow) (F : RL), setL (X ++ y :: F) X.length z = some (X ++ z :: F)
  | [], y, z, F => rfl
  | x :: X, y, z, F => by simp only [List.cons_append, List.length_cons, setL, setL_mid X y z F]
theorem get_mid (X : RL) (y : Nat × ARow) (F : RL) : (X ++ y :: F)[X.length]? = some y := by simp
theorem setL_mid1 (X : RL) (x y z : Nat × ARow) (F : RL) : setL (X ++ x :: y :: F) (X.length + 1) z = some (X ++ x :: z :: F) := by
  have := setL_mid (X ++ [x]) y z F
  simpa using this
theorem get_mid1 (X : RL) (x y : Nat × ARow) (F : RL) : (X ++ x :: y :: F)[X.length + 1]? = some y := by simp
theorem dropL_mid : ∀ (X : RL) (y : Nat × ARow) (F : RL), dropL (X ++ y :: F) X.length = some (X ++ F)
  | [], y, F => rfl
  | x :: X, y, F => by simp only [List.cons_append, List.length_cons, dropL, dropL_mid X y F]
end Go.Am
namespace Go.Gp
set_option linter.unusedVariables false
set_option linter.unusedSimpArgs false
/-- How many of a thing's needs are not in the row. -/
def cnt (M : Nd) (r : List Nat) (x : Nat) : Nat := (nd M x).countP fun k => !r.contains k
theorem ready_cnt {M : Nd} {r : List Nat} {x : Nat} : ready M r x = true ↔ x ∉ r ∧ cnt M r x = 0 := by
  rw [ready_iff, cnt, List.countP_eq_zero]
  simp
theorem cnt_nil (M : Nd) (x : Nat) : cnt M [] x = (nd M x).length := by
  unfold cnt
  rw [List.countP_eq_length.2]
  intro k _; simp
theorem cnt_snoc {M : Nd} {r : List Nat} {i : Nat} (hi : i ∉ r) (x : Nat) : cnt M (r ++ [i]) x + (nd M x).count i = cnt M r x := by
  unfold cnt
  induction nd M x with
  | nil => rfl
  | cons k l ih =>
    rw [List.countP_cons, List.countP_cons, List.count_cons]
    by_cases hk : k = i
    · subst hk
      have h1 : r.contains k = false := by rw [← Bool.not_eq_true, List.contains_iff_mem]; exact hi
      have h3 : (r ++ [k]).contains k = true := by rw [List.contains_iff_mem]; simp
      simp only [h1, h3, beq_self_eq_true, Bool.not_false, Bool.not_true, if_true, Bool.false_eq_true, if_false]; omega
    · have h2 : (k == i) = false := by simpa using hk
      have h3 : (r ++ [i]).contains k = r.contains k := by
        rw [Bool.eq_iff_iff, List.contains_iff_mem, List.contains_iff_mem]; simp [hk]
      rw [h2, h3]
      simp only [Bool.false_eq_true, if_false]
      omega
theorem at_set {H : List Nat} {i v : Nat} (hi : i < H.length) (k : Nat) : at' (H.set i v) k = if k = i then v else at' H k := by
  unfold at'
  rw [List.getD_eq_getElem?_getD, List.getD_eq_getElem?_getD, List.getElem?_set]
  by_cases h : i = k
  · subst h; simp [hi]
  · rw [if_neg h, if_neg (Ne.symm h)]
/-- What is ready stands in the heap: of the row so far. -/
structure HI (M : Nd) (r op H : List Nat) : Prop where
  heap : Hp H
  nd' : H.Nodup
  len : op.length = M.length
  mem : ∀ x, x ∈ H ↔ x < M.length ∧ x ∉ r ∧ at' op x = 0
theorem HI.room {M : Nd} {r op H : List Nat} (h : HI M r op H) : H.length ≤ M.length := nodup_len _ _ h.nd' fun x hx => ((h.mem x).1 hx).1
def Opn (M : Nd) (r op : List Nat) : Prop := ∀ x, x < M.length → at' op x = cnt M r x
theorem HI.next {M : Nd} {r op H : List Nat} (h : HI M r op H) (ho : Opn M r op) (h0 : 0 < H.length) : nxt M r = some (at' H 0) := by
  have hm : at' H 0 ∈ H := List.mem_of_getElem? (of_at h0)
  obtain ⟨h1, h2, h3⟩ := (h.mem _).1 hm
  refine nxt_some.2 ⟨ready_cnt.2 ⟨h2, by rw [← ho _ h1]; exact h3⟩, h1, fun j hj => ?_⟩
  cases hr : ready M r j with
  | false => rfl
  | true =>
    obtain ⟨g1, g2⟩ := ready_cnt.1 hr
    have hjH : j ∈ H := (h.mem j).2 ⟨by omega, g1, by rw [ho j (by omega)]; exact g2⟩
    obtain ⟨p, hp⟩ := List.getElem?_of_mem hjH
    have := h.heap.least p (List.getElem?_eq_some_iff.1 hp).1
    rw [at_of hp] at this
    omega
theorem HI.none {M : Nd} {r op H : List Nat} (h : HI M r op H) (ho : Opn M r op) (h0 : H = []) : nxt M r = none := by
  refine nxt_none.2 fun i hi => ?_
  cases hr : ready M r i with
  | false => rfl
  | true =>
    obtain ⟨g1, g2⟩ := ready_cnt.1 hr
    have : i ∈ H := (h.mem i).2 ⟨hi, g1, by rw [ho i hi]; exact g2⟩
    rw [h0] at this; cases this
theorem HI.pop {M : Nd} {r op H H' : List Nat} (h : HI M r op H) (hp : H.Perm (at' H 0 :: H')) (hh : Hp H') : HI M (r ++ [at' H 0]) op H' := by
  have hnd := hp.nodup_iff.1 h.nd'
  obtain ⟨n1, n2⟩ := List.nodup_cons.1 hnd
  refine ⟨hh, n2, h.len, fun x => ?_⟩
  have e := (hp.mem_iff (a := x)).symm.trans (h.mem x)
  rw [List.mem_cons] at e
  constructor
  · intro hx
    obtain ⟨e1, e2, e3⟩ := e.1 (.inr hx)
    refine ⟨e1, fun hm => ?_, e3⟩
    rcases List.mem_append.1 hm with hm | hm
    · exact e2 hm
    · simp at hm; subst hm; exact n1 hx
  · rintro ⟨e1, e2, e3⟩
    have := e.2 ⟨e1, fun hm => e2 (List.mem_append_left _ hm), e3⟩
    rcases this with rfl | hx
    · exact absurd (by simp) e2
    · exact hx
/-- In the midst of those that need what came last. -/
def Mid (M R : Nd) (r : List Nat) (i j : Nat) (op : List Nat) : Prop := ∀ x, x < M.length → at' op x + ((nd R i).take j).count x = cnt M r x
theorem Mid.start {M R : Nd} {r op : List Nat} (i : Nat) (h : Opn M r op) : Mid M R r i 0 op := fun x hx => by rw [h x hx]; simp
theorem Mid.end {M R : Nd} {r op : List Nat} {i j : Nat} (h : Mid M R r i j op) (hT : Turned M R) (hi : i < M.length) (hin : i ∉ r) (hj : (nd R i).length ≤ j) : Opn M (r ++ [i]) op := fun x hx => by
  have h1 := h x hx
  rw [List.take_of_length_le hj, hT.2 i hi] at h1
  have := cnt_snoc (M := M) hin x
  omega
theorem Mid.pos {M R : Nd} {r op : List Nat} {i j k : Nat} (h : Mid M R r i j op) (hT : Turned M R) (hi : i < M.length) (hin : i ∉ r) (hk : (nd R i)[j]? = some k) (hkn : k < M.length) : 0 < at' op k := by
  have h1 := h k hkn
  have h2 := cnt_snoc (M := M) hin k
  have h3 : ((nd R i).take (j + 1)).count k ≤ (nd R i).count k := (List.take_sublist _ _).count_le _
  rw [take_snoc' hk, List.count_append, hT.2 i hi] at h3
  simp at h3
  omega
theorem Mid.step {M R : Nd} {r op : List Nat} {i j k : Nat} (h : Mid M R r i j op) (hk : (nd R i)[j]? = some k) (hkn : k < op.length) (hp : 0 < at' op k) : Mid M R r i (j + 1) (op.set k (at' op k - 1)) := fun x hx => by
  have h1 := h x hx
  rw [take_snoc' hk, List.count_append, at_set hkn]
  by_cases hxk : x = k
  · subst hxk; rw [if_pos rfl]; simp; omega
  · rw [if_neg hxk]
    have : ¬ k = x := fun e => hxk e.symm
    simp [List.count_singleton, this]; omega
theorem notIn {M R : Nd} {r : List Nat} {i k : Nat} (hM : Ok M) (hT : Turned M R) (hr : Row M r) (hn : nxt M r = some i) (hk : k ∈ nd R i) : k ∉ r ++ [i] := fun hm => by
  have hik : i ∈ nd M k := (hT.mem hM k i).2 hk
  obtain ⟨h1, h2, _⟩ := nxt_some.1 hn
  obtain ⟨h3, h4⟩ := ready_iff.1 h1
  rcases List.mem_append.1 hm with hm | hm
  · exact h3 (hr.in hm hik)
  · simp at hm; subst hm; exact h3 (h4 _ hik)
theorem HI.dec {M : Nd} {r op H : List Nat} {k : Nat} (h : HI M r op H) (hk : k < M.length) (hp : 0 < at' op k) (hnz : at' op k - 1 ≠ 0) : HI M r (op.set k (at' op k - 1)) H :=
  ⟨h.heap, h.nd', by simpa using h.len, fun x => by
    rw [h.mem x, at_set (by rw [h.len]; exact hk)]
    by_cases hx : x = k
    · subst hx; rw [if_pos rfl]; constructor <;> (rintro ⟨_, _, h3⟩; omega)
    · rw [if_neg hx]⟩
theorem HI.put {M : Nd} {r op H H' : List Nat} {k : Nat} (h : HI M r op H) (hk : k < M.length) (hkr : k ∉ r) (hp : 0 < at' op k) (hz : at' op k - 1 = 0) (hh : Hp H') (hpm : H'.Perm (k :: H)) : HI M r (op.set k (at' op k - 1)) H' := by
  have hkH : k ∉ H := fun hm => by have := ((h.mem k).1 hm).2.2; omega
  refine ⟨hh, hpm.nodup_iff.2 (List.nodup_cons.2 ⟨hkH, h.nd'⟩), by simpa using h.len, fun x => ?_⟩
  rw [hpm.mem_iff, List.mem_cons, h.mem x, at_set (by rw [h.len]; exact hk)]
  by_cases hx : x = k
  · subst hx; rw [if_pos rfl]; simp [hk, hkr, hz]
  · rw [if_neg hx]; simp [hx]
end Go.Gp
namespace Go.Proofs.Yteakbbnlkjckhaa
open Go.Am Go.Gp
set_option linter.unusedVariables false
set_option linter.unusedSimpArgs false
set_option maxRecDepth 20000
set_option maxHeartbeats 4000000
attribute [local irreducible] OS LSr ODS CS
/-- What stands open; the row so far. -/
def opn (rop : Nat) (op : List Nat) : Nat × ARow := (rop, .cells tI (ns op))
theorem lay_op {l : List Nat} {i k : Nat} (h : i < l.length) : lay (ns l) (0 + i * 1) [iN k] = some (ns (l.set i k)) := by
  rw [show 0 + i * 1 = i by omega, lay_one (by rw [ns_len]; exact h), ns_set]
theorem repl_zero (n : Nat) : repL [iN 0] n = ns (List.replicate n 0) := by simp [repL, ns]
theorem rowOf_ct {L : RL} {v : Value} {M : Nd} (hv : NL L v (nv M)) (hM : Ok M) (hn : M.length ≤ 4096) (ht : tot M ≤ 65536) :
    CS Try.prog 24 [v] L fun u L' => ∃ Y, L' = Y ++ L ∧ SV 1 Y u (topo M).length (ns (topo M)) := by
  obtain ⟨ics, hs, hg⟩ := hv.ofN
  refine CS.mk (fn := Try.f24) rfl rfl rfl rfl ?_
  refine yG ?_
  refine OS.call noGo rfl (fun _ => rfl) ((needers_ct hv hM hn ht).mono ?_)
  rintro lv L2 ⟨R, Y0, rfl, hR, hT, htR⟩
  obtain ⟨jcs, hsR, hgR⟩ := hR.ofN
  rw [hT.1] at hsR
  generalize hF0 : Y0 ++ L = F0
  have hsR0 : SV 1 F0 lv M.length jcs := hsR.mono fun p hp => by rw [← hF0]; exact List.mem_append_left _ hp
  have hs0 : SV 1 F0 v M.length ics := hs.mono fun p hp => by rw [← hF0]; exact List.mem_append_right _ hp
  have hg0 : ∀ x, x < M.length → ∃ b, ics[x]? = some b ∧ SV 1 F0 b (nd M x).length (ns (nd M x)) := fun x hx => by
    obtain ⟨b, h1, h2⟩ := hg x _ (at_nd hx)
    exact ⟨b, h1, h2.mono fun p hp => by rw [← hF0]; exact List.mem_append_right _ hp⟩
  have hgR0 : ∀ x, x < M.length → ∃ b, jcs[x]? = some b ∧ SV 1 F0 b (nd R x).length (ns (nd R x)) := fun x hx => by
    obtain ⟨b, h1, h2⟩ := hgR x _ (at_nd (by rw [hT.1]; exact hx))
    exact ⟨b, h1, h2.mono fun p hp => by rw [← hF0]; exact List.mem_append_left _ hp⟩
  refine yG ?_
  refine OS.fresh rfl (e_make (l := M.length) (c := M.length) rfl rfl rfl makeT_ints (Nat.le_refl _) (by omega) (by omega)) (fun _ => rfl) (fun rop => ?_)
  rw [repl_zero]
  refine yG ?_
  refine OS.fresh rfl (e_new (fun _ => rfl) rfl) (fun _ => rfl) (fun rr => ?_)
  refine yG ?_
  refine LS.loopJ [0, 3, 4, 5, 17, 18, 19] (fun q a L' => ∃ (i : Nat) (op H : List Nat) (Y : RL), q = M.length - i ∧ i ≤ M.length ∧ op.length = M.length ∧ (∀ x, x < M.length → at' op x = if x < i then (nd M x).length else 0) ∧ Hp H ∧ H.Nodup ∧ (∀ x, x ∈ H ↔ x < i ∧ nd M x = []) ∧ HW rr H Y ∧ L' = Y ++ opn rop op :: F0 ∧ a = [v, .chan none, .chan none, lv, .slice (some ⟨rop, 0, none⟩) M.length M.length, .pointer (some ⟨rr, 0, none⟩), .chan none, .chan none, .chan none, .chan none, .chan none, .chan none, .chan none, .chan none, .chan none, .chan none, .chan none, v, iN M.length, iN i, .chan none, .chan none, .chan none, .chan none, .chan none, .chan none, .chan none, .chan none, .chan none, .chan none, .chan none, .chan none, .chan none, .chan none, .chan none, .chan none, .chan none, .chan none, .chan none, .chan none, .chan none, .chan none, .chan none, .chan none, .chan none, .chan none, .chan none, .chan none, .chan none, .chan none, .chan none, .chan none, .chan none, .chan none, .chan none, .chan none, .chan none, .chan none, .chan none, .chan none, .chan none, .chan none, .chan none, .chan none, .chan none, .chan none, .chan none, .chan none, .chan none, .chan none, .chan none, .chan none, .chan none]) (n := M.length) rfl ⟨0, List.replicate M.length 0, [], _, rfl, by omega, by simp, fun x hx => by unfold at'; simp [hx], Hp.nil, List.nodup_nil, fun x => by simp, .nil, rfl, rfl⟩ ?_
  rintro q a L' ⟨i, op, H, Y, rfl, hi, hol, hop, hh, hnd, hm, hw, rfl, rfl⟩
  have mu : ∀ (y : Nat × ARow) (p : Nat × ARow), p ∈ F0 → p ∈ Y ++ y :: F0 := fun y p hp => List.mem_append_right _ (List.mem_cons_of_mem _ hp)
  have hso : ∀ (op : List Nat) (X G : RL), op.length = M.length → SV 1 (X ++ opn rop op :: G) (.slice (some ⟨rop, 0, none⟩) M.length M.length) M.length (ns op) := fun op X G h => SV.row (e := tI) (List.mem_append_right _ (List.mem_cons_self ..)) (by rw [ns_len, h]; simp)
  have hHl : H.length ≤ M.length := nodup_len _ _ hnd fun x hx => by have := ((hm x).1 hx).1; omega
  by_cases hin : i < M.length
  · have hbi : (!ileB ((M.length : Nat) : Int) (i : Nat)) = true := by rw [ileB_eq]; simp; omega
    obtain ⟨b, hb, hsw⟩ := hg0 i hin
    have hwl := tot_mem (at_nd hin)
    have hsw1 := hsw.mono (mu (opn rop op))
    have hs1 := hs0.mono (mu (opn rop op))
    have hget : (op.set i (nd M i).length)[i]? = some (nd M i).length := by rw [List.getElem?_set, if_pos rfl, if_pos (by omega)]
    refine yG ?_
    refine OS.at1 (j := i) (hs1) (hb) rfl rfl rfl rfl rfl rfl (fun ra0 oa0 rowa0 csa0 ma0 ca0 ga0 => ⟨_, rfl, ?_⟩)
    refine OS.read rfl (e_loadm ma0 ca0 rfl rfl (part_one rfl ga0)) rfl ?_
    refine yG ?_
    refine OS.pure rfl (e_index (j := i) (sz := 1) rfl rfl rfl Try.underlying23 rfl hin) rfl ?_
    refine OS.write rfl (e_store Y.length (n := 1) rfl rfl rfl (get_mid ..) rfl rfl (lay_op (by omega)) (setL_mid ..)) rfl ?_
    refine yG ?_
    show OS _ _ _ _ (Y ++ opn rop (op.set i (nd M i).length) :: F0) _
    refine OS.at1 (j := i) (hso (op.set i (nd M i).length) Y F0 (by simpa using hol)) (ns_at hget) rfl rfl rfl rfl rfl rfl (fun ra1 oa1 rowa1 csa1 ma1 ca1 ga1 => ⟨_, rfl, ?_⟩)
    refine OS.read rfl (e_loadm ma1 ca1 rfl rfl (part_one rfl ga1)) rfl ?_
    have hop2 : ∀ x, x < M.length → at' (op.set i (nd M i).length) x = if x < i + 1 then (nd M x).length else 0 := fun x hx => by
      rw [at_set (by omega)]
      by_cases hxi : x = i
      · subst hxi; rw [if_pos rfl, if_pos (by omega)]
      · rw [if_neg hxi, hop x hx]
        by_cases h1 : x < i
        · rw [if_pos h1, if_pos (by omega)]
        · rw [if_neg h1, if_neg (by omega)]
    by_cases hz : nd M i = []
    · have hbz : ieqB (((nd M i).length : Nat) : Int) 0 = true := by rw [hz]; rfl
      refine yG ?_
      refine OS.call noGo rfl (fun _ => rfl) ((put_ct hw hh (by omega)).mono ?_)
      rintro u L2 ⟨Y', H', rfl, hw', hh', hpm⟩
      refine yG ?_
      refine ⟨M.length - (i + 1), by omega, i + 1, op.set i (nd M i).length, H', Y', rfl, by omega, by simpa using hol, hop2, hh', ?_, fun x => ?_, hw', rfl, rfl⟩
      · exact hpm.nodup_iff.2 (List.nodup_cons.2 ⟨fun hx => by have := ((hm i).1 hx).1; omega, hnd⟩)
      · rw [hpm.mem_iff, List.mem_cons, hm x]
        constructor
        · rintro (rfl | ⟨h1, h2⟩)
          · exact ⟨by omega, hz⟩
          · exact ⟨by omega, h2⟩
        · rintro ⟨h1, h2⟩
          by_cases hxi : x = i
          · exact .inl hxi
          · exact .inr ⟨by omega, h2⟩
    · have hpos := List.length_pos_iff.2 hz
      have hbz : ieqB (((nd M i).length : Nat) : Int) 0 = false := by rw [Bool.eq_false_iff]; intro h; have := eq_of h; omega
      refine yG ?_
      refine ⟨M.length - (i + 1), by omega, i + 1, op.set i (nd M i).length, H, Y, rfl, by omega, by simpa using hol, hop2, hh, hnd, fun x => ?_, hw, rfl, rfl⟩
      rw [hm x]
      constructor
      · rintro ⟨h1, h2⟩; exact ⟨by omega, h2⟩
      · rintro ⟨h1, h2⟩
        by_cases hxi : x = i
        · subst hxi; exact absurd h2 hz
        · exact ⟨by omega, h2⟩
  · have hbi : (!ileB ((M.length : Nat) : Int) (i : Nat)) = false := by rw [ileB_eq]; simp; omega
    obtain rfl : i = M.length := by omega
    have hs1 := hs0.mono (mu (opn rop op))
    have hop' : Opn M [] op := fun x hx => by rw [hop x hx, if_pos hx, cnt_nil]
    have hhi : HI M [] op H := ⟨hh, hnd, hol, fun x => by
      rw [hm x]
      constructor
      · rintro ⟨h1, h2⟩; exact ⟨h1, by simp, by rw [hop x h1, if_pos h1, h2]; rfl⟩
      · rintro ⟨h1, _, h3⟩; exact ⟨h1, List.eq_nil_of_length_eq_zero (by rw [hop x h1, if_pos h1] at h3; exact h3)⟩⟩
    clear hop hh hnd hm hin hHl hol
    refine yG ?_
    refine LS.exit ?_
    refine yG ?_
    refine OS.fresh rfl (e_make (l := 0) (c := M.length) rfl rfl rfl makeT_ints (Nat.zero_le _) (by omega) (by omega)) (fun _ => rfl) (fun rw => ?_)
    refine OS.pure rfl (fun _ => rfl) rfl ?_
    refine OS.opened 8 0 rfl rfl (sz := 1) rfl (by rw [repl_zero, ns_len]; simp) (by unfold openCap; omega) rfl ?_
    refine OS.sub (Sub.sums (A := Y ++ (rw, .cells tI (ns [] ++ repL [iN 0] M.length)) :: opn rop op :: F0) fun f => by simp [ns]; omega) ?_
    refine OS.nil ?_
    repeat refine LS.seq ?_
    refine LS.block ?_
    refine LS.loopJ [3, 4, 5, 8] (fun q a L' => ∃ (r : List Nat) (J : List Value) (rw : Nat) (op H : List Nat) (Y : RL), q = M.length - r.length ∧ Part M r ∧ Opn M r op ∧ HI M r op H ∧ HW rr H Y ∧ L' = Y ++ (rw, .cells tI (ns r ++ J)) :: opn rop op :: F0 ∧ a = [.chan none, .chan none, .chan none, lv, .slice (some ⟨rop, 0, none⟩) M.length M.length, .pointer (some ⟨rr, 0, none⟩), .chan none, .chan none, .slice (some ⟨rw, 0, none⟩) r.length openCap, .chan none, .chan none, .chan none, .chan none, .chan none, .chan none, .chan none, .chan none, .chan none, .chan none, .chan none, .chan none, .chan none, .chan none, .chan none, .chan none, .chan none, .chan none, .chan none, .chan none, .chan none, .chan none, .chan none, .chan none, .chan none, .chan none, .chan none, .chan none, .chan none, .chan none, .chan none, .chan none, .chan none, .chan none, .chan none, .chan none, .chan none, .chan none, .chan none, .chan none, .chan none, .chan none, .chan none, .chan none, .chan none, .chan none, .chan none, .chan none, .chan none, .chan none, .chan none, .chan none, .chan none, .chan none, .chan none, .chan none, .chan none, .chan none, .chan none, .chan none, .chan none, .chan none, .chan none, .chan none]) (n := M.length) rfl ⟨[], _, rw, op, H, Y, rfl, .nil M, hop', hhi, hw, rfl, rfl⟩ ?_
    clear hop' hhi hw hs1 mu
    rintro q a L' ⟨r, J, rw, op, H, Y, rfl, hpart, hop, hhi, hw, rfl, rfl⟩
    have hHl := hhi.room
    have hrl := hpart.len
    obtain ⟨hv0, hhead, hsvh⟩ := hw.head (F := (rw, .cells tI (ns r ++ J)) :: opn rop op :: F0)
    refine yG ?_
    refine OS.read rfl (e_loadm (show (rr, ARow.cells tQ [hv0]) ∈ _ by rw [hhead]; exact List.mem_cons_self ..) rfl rfl rfl (part_one rfl rfl)) rfl ?_
    refine OS.callS noGo rfl (fun _ => rfl) (Len_ct hsvh) rfl ?_
    rcases Nat.eq_zero_or_pos H.length with h0 | h0
    · have hb0 : (!ileB ((H.length : Nat) : Int) 0) = false := by rw [h0]; rfl
      have hend := hpart.end (hhi.none hop (List.eq_nil_of_length_eq_zero h0))
      refine yG ?_
      refine LS.exit ?_
      refine yG ?_
      refine ⟨Y ++ (rw, .cells tI (ns r ++ J)) :: opn rop op :: Y0, by rw [← hF0]; simp, ?_⟩
      rw [hend]
      exact .inr ⟨rw, 0, openCap, _, ns r ++ J, rfl, List.mem_append_right _ (List.mem_cons_self ..), rfl, by rw [cut_of (by simp [ns_len])]; simp [ns_len]⟩
    have hb0 : (!ileB ((H.length : Nat) : Int) 0) = true := by rw [ileB_eq, decide_eq_false (by omega)]; rfl
    have hnx := hhi.next hop h0
    refine yG ?_
    refine OS.call noGo rfl (fun _ => rfl) ((take_ct hw hhi.heap h0 (by omega)).mono ?_)
    rintro u L2 ⟨rfl, Y', H', rfl, hw', hh', hpm⟩
    have hhi' := hhi.pop hpm hh'
    generalize at' H 0 = i at hnx hpm hhi'
    obtain ⟨hready, hin, hleast⟩ := nxt_some.1 hnx
    have hir := (ready_iff.1 hready).1
    have hrlt := nodup_len1 hpart.1.1 hpart.1.2.1 hin hir
    obtain ⟨b, hb, hsw⟩ := hgR0 i hin
    have hwl := htR i (by rw [hT.1]; exact hin)
    have mu : ∀ (Y : RL) (x y : Nat × ARow) (p : Nat × ARow), p ∈ F0 → p ∈ Y ++ x :: y :: F0 := fun Y x y p hp => List.mem_append_right _ (List.mem_cons_of_mem _ (List.mem_cons_of_mem _ hp))
    clear hhead hsvh hb0 hhi
    refine yG ?_
    refine OS.fresh rfl (e_new (fun _ => rfl) rfl) (fun _ => rfl) (fun rb => ?_)
    refine OS.fresh rfl (e_appendSV (Y'.length + 1) (len := r.length) (off := 0) (n := 1) (e := tI) (sz := 1) (bts := 8) (new := [iN i]) (old := ns r) (SV.row (sz := 1) (n := 1) (cap := 1) (List.mem_cons_self ..) rfl) rfl rfl rfl rfl (by omega) (by omega) (get_mid Y' (rw, .cells tI (ns r ++ J)) (opn rop op :: F0)) (by rw [cut_of (by simp [ns_len])]; simp [ns_len]) (by simp only [dropL, dropL_mid]; rfl)) (fun _ => rfl) (fun r2 => ?_)
    refine OS.sub (Sub.sums2 [(rb, .cells 3 [iN i])] (A := Y' ++ (r2, .cells tI (ns (r ++ [i]) ++ [])) :: opn rop op :: F0) fun f => by simp only [ns_snoc, List.append_nil, List.append_eq, List.map_append, List.map_cons, List.map_nil, List.sum_append, List.sum_cons, List.sum_nil, List.append_assoc, List.cons_append, List.nil_append]; omega) ?_
    have hsR1 := hsR0.mono (mu Y' (r2, .cells tI (ns (r ++ [i]) ++ [])) (opn rop op))
    have hsw1 := hsw.mono (mu Y' (r2, .cells tI (ns (r ++ [i]) ++ [])) (opn rop op))
    refine yG ?_
    refine OS.at1 (j := i) (hsR1) (hb) rfl rfl rfl rfl rfl rfl (fun ra0 oa0 rowa0 csa0 ma0 ca0 ga0 => ⟨_, rfl, ?_⟩)
    refine OS.read rfl (e_loadm ma0 ca0 rfl rfl (part_one rfl ga0)) rfl ?_
    refine yG ?_
    refine LS.loopJ [3, 4, 5, 8, 52, 53, 54] (fun q a L' => ∃ (j : Nat) (op H : List Nat) (Y : RL), q = (nd R i).length - j ∧ j ≤ (nd R i).length ∧ Mid M R r i j op ∧ HI M (r ++ [i]) op H ∧ HW rr H Y ∧ L' = Y ++ (r2, .cells tI (ns (r ++ [i]) ++ [])) :: opn rop op :: F0 ∧ a = [.chan none, .chan none, .chan none, lv, .slice (some ⟨rop, 0, none⟩) M.length M.length, .pointer (some ⟨rr, 0, none⟩), .chan none, .chan none, .slice (some ⟨r2, 0, none⟩) (r.length + 1) openCap, .chan none, .chan none, .chan none, .chan none, .chan none, .chan none, .chan none, .chan none, .chan none, .chan none, .chan none, .chan none, .chan none, .chan none, .chan none, .chan none, .chan none, .chan none, .chan none, .chan none, .chan none, .chan none, .chan none, .chan none, .chan none, .chan none, .chan none, .chan none, .chan none, .chan none, .chan none, .chan none, .chan none, .chan none, .chan none, .chan none, .chan none, .chan none, .chan none, .chan none, .chan none, .chan none, .chan none, b, iN (nd R i).length, iN j, .chan none, .chan none, .chan none, .chan none, .chan none, .chan none, .chan none, .chan none, .chan none, .chan none, .chan none, .chan none, .chan none, .chan none, .chan none, .chan none, .chan none, .chan none]) (n := (nd R i).length) rfl ⟨0, op, H', Y', rfl, by omega, .start i hop, hhi', hw', rfl, rfl⟩ ?_
    clear hhi' hw' hop hsR1 hsw1 hpm hh' hw
    rintro q a L' ⟨j, op, H, Y, rfl, hj, hmid, hhi, hw, rfl, rfl⟩
    have hHl := hhi.room
    have hol := hhi.len
    have hsw1 := hsw.mono (mu Y (r2, .cells tI (ns (r ++ [i]) ++ [])) (opn rop op))
    by_cases hjw : j < (nd R i).length
    · have hbj : (!ileB (((nd R i).length : Nat) : Int) (j : Nat)) = true := by rw [ileB_eq]; simp; omega
      obtain ⟨k, hk⟩ := ext_list hjw
      have hkn : k < M.length := by have := hT.ok hM i k (List.mem_of_getElem? hk); rw [hT.1] at this; exact this
      have hpos := hmid.pos hT hin hir hk hkn
      have hkr := notIn hM hT hpart.1 hnx (List.mem_of_getElem? hk)
      have hmid' := hmid.step hk (by omega) hpos
      have hget : (op.set k (at' op k - 1))[k]? = some (at' op k - 1) := by rw [List.getElem?_set, if_pos rfl, if_pos (by omega)]
      have hopk : at' op k ≤ 65536 := by
        have h1 := hmid k hkn
        have h2 : cnt M r k ≤ (nd M k).length := List.countP_le_length
        have := tot_mem (at_nd hkn)
        omega
      have hso1 : ∀ op : List Nat, op.length = M.length → SV 1 (Y ++ (r2, ARow.cells tI (ns (r ++ [i]) ++ [])) :: opn rop op :: F0) (.slice (some ⟨rop, 0, none⟩) M.length M.length) M.length (ns op) := fun op h => SV.row (e := tI) (List.mem_append_right _ (List.mem_cons_of_mem _ (List.mem_cons_self ..))) (by rw [ns_len, h]; simp)
      refine yG ?_
      refine OS.at1 (j := j) (hsw1) (ns_at hk) rfl rfl rfl rfl rfl rfl (fun ra1 oa1 rowa1 csa1 ma1 ca1 ga1 => ⟨_, rfl, ?_⟩)
      refine OS.read rfl (e_loadm ma1 ca1 rfl rfl (part_one rfl ga1)) rfl ?_
      refine yG ?_
      refine OS.at1 (j := k) (hso1 op hol) (ns_at (of_at (by omega))) rfl rfl rfl rfl rfl rfl (fun ra2 oa2 rowa2 csa2 ma2 ca2 ga2 => ⟨_, rfl, ?_⟩)
      refine OS.read rfl (e_loadm ma2 ca2 rfl rfl (part_one rfl ga2)) rfl ?_
      refine yG ?_
      refine OS.pure rfl (e_index (j := k) (sz := 1) rfl rfl rfl Try.underlying23 rfl hkn) rfl ?_
      refine OS.write rfl (e_store (Y.length + 1) (n := 1) rfl rfl rfl (get_mid1 ..) rfl rfl (lay_op (by omega)) (setL_mid1 ..)) rfl ?_
      refine yG ?_
      show OS _ _ _ _ (Y ++ (r2, ARow.cells tI (ns (r ++ [i]) ++ [])) :: opn rop (op.set k (at' op k - 1)) :: F0) _
      refine OS.at1 (j := k) (hso1 (op.set k (at' op k - 1)) (by simpa using hol)) (ns_at hget) rfl rfl rfl rfl rfl rfl (fun ra3 oa3 rowa3 csa3 ma3 ca3 ga3 => ⟨_, rfl, ?_⟩)
      refine OS.read rfl (e_loadm ma3 ca3 rfl rfl (part_one rfl ga3)) rfl ?_
      by_cases hz : at' op k - 1 = 0
      · have hbz : ieqB ((at' op k - 1 : Nat) : Int) 0 = true := by rw [hz]; rfl
        refine yG ?_
        refine OS.call noGo rfl (fun _ => rfl) ((put_ct hw hhi.heap (by omega)).mono ?_)
        rintro u L2 ⟨Y2, H2, rfl, hw2, hh2, hpm⟩
        refine yG ?_
        exact ⟨(nd R i).length - (j + 1), by omega, j + 1, op.set k (at' op k - 1), H2, Y2, rfl, by omega, hmid', hhi.put hkn hkr hpos hz hh2 hpm, hw2, rfl, rfl⟩
      · have hbz : ieqB ((at' op k - 1 : Nat) : Int) 0 = false := by rw [Bool.eq_false_iff]; intro h; have := eq_of h; omega
        refine yG ?_
        exact ⟨(nd R i).length - (j + 1), by omega, j + 1, op.set k (at' op k - 1), H, Y, rfl, by omega, hmid', hhi.dec hkn hpos hz, hw, rfl, rfl⟩
    · have hbj : (!ileB (((nd R i).length : Nat) : Int) (j : Nat)) = false := by rw [ileB_eq]; simp; omega
      refine yG ?_
      refine LS.exit ?_
      exact ⟨M.length - (r.length + 1), by omega, r ++ [i], [], r2, op, H, Y, by simp, hpart.step hnx, hmid.end hT hin hir (by omega), hhi, hw, rfl, by simp; rfl⟩
end Go.Proofs.Yteakbbnlkjckhaa
