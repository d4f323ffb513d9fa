/- Layer 12: a line is taken in. -/
import Derived.Test.YtoadplnbajmcbaaGreatDoorRl
namespace Go.Am
section
variable {P : Program} {o : Oper} {a : Slots} {x y : Operand} {t z : TypeId}
theorem bits8 {m : Nat} (hm : m < 256) : bitsB .u8 (m : Int) = m := by
  unfold bitsB
  have : (ileB 0 (m : Int) && ileB (m : Int) (mostB .u8)) = true := by
    rw [Bool.and_eq_true, ileB_iff, ileB_iff]; exact ⟨by omega, by simp [mostB]; omega⟩
  rw [this]; simp
theorem e_and8 {m n : Nat} (ho : o.op = .binOp .and t x y z) (hx : aev a x = some (.int .u8 (m : Int))) (hy : aev a y = some (.int .u8 (n : Int))) (hm : m < 256) (hn : n < 256) : ∀ h, opB P a o h = some (.val (.int .u8 ((m &&& n : Nat) : Int)) h) := by
  intro h
  have hlt : m &&& n < 256 := Nat.and_lt_two_pow (n := 8) m hn
  have hi : inK .u8 ((m &&& n : Nat) : Int) = true := in_u8 (by omega) (by omega)
  simp only [opB, ho, hx, hy, eqOk, binB, if_true, bits8 hm, bits8 hn, wrap_in hi, ret]
theorem ODS.sliceHi {e : TypeId} {n : Nat} {v : Value} {cs : List Value} {F L : RL} {ops : List Oper} {ms : List Nat} {i : Nat} {sched : List (Nat × Bool)} {dn : Dn} {K : Slots → RL → Prop} {hi : Operand} {k : IntKind} (hq : ops[i]? = some o) (u : Nat) (hs : WL e F v n cs) (hF : ∀ p, p ∈ F → p ∈ L) (hw : wantedB ops o a = true) (ho : o.op = .slice t x none (some hi) none) (hx : aev a x = some v) (hhi : aev a hi = some (.int k (u : Nat)))
    (ht : P.underlying t = some (.slice e)) (hz : sizeB P e = some 1) (hu : u ≤ n) (c : ∀ v', WL e F v' u (cs.take u) → ∃ a₁, putAt a o.dst v' = some a₁ ∧ ODS P ops ms K sched ((i, a, v') :: dn) a₁ L) : ODS P ops ms K ((i, false) :: sched) dn a L := by
  obtain ⟨v', ⟨h1, _⟩, h2⟩ := e_sliceHi u hs hF ho hx hhi ht hz hu
  obtain ⟨a₁, ep, c⟩ := c v' h1
  exact ODS.read hq hw h2 ep c
theorem ODS.sub {P : Program} {ops : List Oper} {ms : List Nat} {K : Slots → RL → Prop} {sched : List (Nat × Bool)} {dn : Dn} {a : Slots} {L L' : RL} (s : Sub L' L) (k : ODS P ops ms K sched dn a L') : ODS P ops ms K sched dn a L := fun h H => k h (s.has H)
theorem OS.sliceHi {e : TypeId} {n : Nat} {v : Value} {cs : List Value} {F L : RL} {ops rest : List Oper} {K : Slots → RL → Prop} {hi : Operand} {k : IntKind} (u : Nat) (hs : WL e F v n cs) (hF : ∀ p, p ∈ F → p ∈ L) (hw : wantedB ops o a = true) (ho : o.op = .slice t x none (some hi) none) (hx : aev a x = some v) (hhi : aev a hi = some (.int k (u : Nat)))
    (ht : P.underlying t = some (.slice e)) (hz : sizeB P e = some 1) (hu : u ≤ n) (c : ∀ v', WL e F v' u (cs.take u) → ∃ a₁, putAt a o.dst v' = some a₁ ∧ OS P ops rest a₁ L K) : OS P ops (o :: rest) a L K := by
  obtain ⟨v', ⟨h1, _⟩, h2⟩ := e_sliceHi u hs hF ho hx hhi ht hz hu
  obtain ⟨a₁, ep, c⟩ := c v' h1
  exact OS.read hw h2 ep c
end
end Go.Am
namespace Go.Proofs.YtoadplnbajmcbaaGreatDoor
open Go.Am Go.Pd
set_option linter.unusedVariables false
set_option maxRecDepth 20000
set_option maxHeartbeats 4000000
attribute [local irreducible] OS LSr ODS CS YS
section
variable {F L Y B : RL} {rd : Nat} {d : Dc}
theorem mayStand_ct {t : Tb} {f : FuncId} {cap : List Value} {p n : Nat} (hpl : t.pl < 256) (hp : p < 256) : CS Tryz.prog 141 [ruleV t f cap, .int .u8 (p : Nat), .int .i64 (n : Nat)] L fun v L' => v = .bool (stand t.pl p && (decide (t.lo ≤ n) && decide (n ≤ t.hi))) ∧ L' = L := by
  have e1 : stand t.pl p = !ieqB ((t.pl &&& p : Nat) : Int) 0 := by
    unfold stand
    rw [ieqB_eq, Bool.eq_iff_iff]; simp
  have e2 : decide (t.lo ≤ n) = ileB (t.lo : Nat) (n : Nat) := by rw [ileB_eq, Bool.eq_iff_iff]; simp
  have e3 : decide (n ≤ t.hi) = ileB (n : Nat) (t.hi : Nat) := by rw [ileB_eq, Bool.eq_iff_iff]; simp
  rw [e1, e2, e3]
  refine CS.less (R := fun v L' => v = .bool (!ieqB ((t.pl &&& p : Nat) : Int) 0 && (ileB (t.lo : Nat) (n : Nat) && ileB (n : Nat) (t.hi : Nat))) ∧ ∃ x, L' = x :: L) ?_ fun v L' ⟨h1, x, h2⟩ => ⟨L, by rw [h2]; exact Sub.tail, h1, rfl⟩
  unfold ruleV
  refine CS.mk (fn := Tryz.f141) rfl rfl rfl rfl ?_
  refine yG ?_
  refine OS.fresh rfl (e_new (fun _ => rfl) rfl) (fun _ => rfl) (fun rb => ?_)
  show OS _ _ _ _ ((rb, ARow.cells 262 [.int .u8 (t.b : Nat), .int .u8 (t.pl : Nat), .int .i64 (t.lo : Nat), .int .i64 (t.hi : Nat), .func (.func f) #[] ⟨cap⟩, .int .i64 (t.once : Nat)]) :: _) _
  refine yG ?_
  refine OS.pure rfl (e_and8 rfl rfl rfl hpl hp) rfl ?_
  rcases tf (!ieqB ((t.pl &&& p : Nat) : Int) 0) with h1 | h1 <;> rcases tf (ileB (t.lo : Nat) (n : Nat)) with h2 | h2 <;> rcases tf (ileB (n : Nat) (t.hi : Nat)) with h3 | h3 <;> rw [h1, h2, h3]
  all_goals
    refine yG ?_
    exact ⟨rfl, _, rfl⟩
theorem place_lt (d : Dc) : placeN d < 256 := by unfold placeN; split; decide; split; decide; split <;> decide
theorem once_called {w : W} {t : Tb} {a : List W} (h : tabOf w = some t) (hb : t.b = 0) (hd : DcOk d) (hs : stand t.pl (placeN d) = true) (hl : t.lo ≤ a.length) (hbd : ∀ x, x ∈ w :: a → x.length ≤ 1000) : t.once ≤ (w :: a).length ∧ Called d w a ((w :: a).take t.once) := by
  have hne : t.pl = 14 → d.secs ≠ [] := fun e h => by
    rw [e, show placeN d = 1 by unfold placeN; rw [h]; rfl] at hs
    exact absurd hs (by decide)
  have hw := tab_words h
  simp only [List.mem_cons, List.not_mem_nil, or_false, Prod.mk.injEq] at hw
  have hwl := hbd w (List.mem_cons_self ..)
  rcases hw with ⟨rfl, rfl⟩ | ⟨rfl, rfl⟩ | ⟨rfl, rfl⟩ | ⟨rfl, rfl⟩ | ⟨rfl, rfl⟩ | ⟨rfl, rfl⟩ | ⟨rfl, rfl⟩ | ⟨rfl, rfl⟩ | ⟨rfl, rfl⟩ | ⟨rfl, rfl⟩ | ⟨rfl, rfl⟩ | ⟨rfl, rfl⟩ | ⟨rfl, rfl⟩ | ⟨rfl, rfl⟩ | ⟨rfl, rfl⟩ | ⟨rfl, rfl⟩
  · cases hb
  · cases hb
  · exact ⟨by simp, .inl ⟨rfl, by decide⟩⟩
  · exact ⟨by simp, .inl ⟨rfl, by decide⟩⟩
  · exact ⟨by simp, .inl ⟨rfl, by decide⟩⟩
  · exact ⟨by simp, .inl ⟨rfl, by decide⟩⟩
  · exact ⟨by simp, .inl ⟨rfl, by decide⟩⟩
  · exact ⟨by simp, .inl ⟨rfl, by decide⟩⟩
  · exact ⟨by simp, .inl ⟨rfl, by decide⟩⟩
  · cases a with
    | nil => simp at hl
    | cons x r =>
      have hx := hbd x (by simp)
      exact ⟨by simp, .inr ⟨by simp, by simp, by decide, by simpa [mtext] using jn2_eq kAxis x, by simp [mtext, jn2, kAxis]; omega, fun _ => by simp, hne rfl⟩⟩
  · exact ⟨by simp, .inr ⟨by simp, by simp, by decide, by simpa [mtext, kAxis, kWhen] using join1 kWhen, by simp [mtext, kAxis, kWhen], fun h => absurd h (by decide), hne rfl⟩⟩
  · exact ⟨by simp, .inl ⟨rfl, by decide⟩⟩
  · exact ⟨by simp, .inr ⟨by simp, by simp, by decide, by simpa [mtext, kAxis, kTries] using join1 kTries, by simp [mtext, kAxis, kTries], fun h => absurd h (by decide), hne rfl⟩⟩
  · exact ⟨by simp, .inr ⟨by simp, by simp, by decide, by simpa [mtext, kAxis, kLimit] using join1 kLimit, by simp [mtext, kAxis, kLimit], fun h => absurd h (by decide), hne rfl⟩⟩
  · exact ⟨by simp, .inr ⟨by simp, by simp, by decide, by simpa [mtext, kAxis, kManual] using join1 kManual, by simp [mtext, kAxis, kManual], fun h => absurd h (by decide), hne rfl⟩⟩
  · exact ⟨by simp, .inl ⟨rfl, by decide⟩⟩
theorem errV_ne {k : Nat} (h : k ≠ 0) : errV k = eV (k : Nat) := by cases k with | zero => exact absurd rfl h | succ n => rfl
theorem sec_word {w : W} {t : Tb} {a : List W} (h : tabOf w = some t) (hb : t.b ≠ 0) (h1 : t.lo ≤ a.length) (h2 : a.length ≤ t.hi) : (w = kTemplate ∨ w = kJob) ∧ t.b = (kindOf w).toNat ∧ t.once = 2 ∧ ∃ n, a = [n] := by
  have hw := tab_words h
  simp only [List.mem_cons, List.not_mem_nil, or_false, Prod.mk.injEq] at hw
  have h3 : (w = kTemplate ∧ t = ⟨1, 15, 1, 1, .name, 2⟩) ∨ (w = kJob ∧ t = ⟨2, 15, 1, 1, .name, 2⟩) := by
    rcases hw with hx | hx | hx | hx | hx | hx | hx | hx | hx | hx | hx | hx | hx | hx | hx | hx
    · exact .inl hx
    · exact .inr hx
    all_goals exact absurd (by rw [hx.2]) hb
  rcases h3 with ⟨rfl, rfl⟩ | ⟨rfl, rfl⟩
  · exact ⟨.inl rfl, by decide, rfl, List.length_eq_one_iff.1 (by simp at h1 h2; omega)⟩
  · exact ⟨.inr rfl, by decide, rfl, List.length_eq_one_iff.1 (by simp at h1 h2; omega)⟩
theorem take_ct {no : Int} {w : W} {a : List W} {lv : Value} (h : DS rd d Y B F L) (hlvB : Wd (Y ++ B) lv (w :: a)) (ha : a.length ≤ 400) (hbd : ∀ x, x ∈ w :: a → x.length ≤ 1000) :
    CS Tryz.prog 105 [ptr rd, .int .i64 no, lv] L fun v L' => Res rd B F (LN d no w a) v L' := by
  have h0 := h
  obtain ⟨rr, rc, rs, es, ck, ec, kc, em, km, hv, sv, HY, SY, IY, fc, fm, rfl, hBF, hok, hR, ⟨hC1, hC2⟩, ⟨hM1, hM2, hM3⟩, hD⟩ := h.ex
  have mB : ∀ p, p ∈ Y ++ B → p ∈ Y ++ F := fun p hp => by
    rcases List.mem_append.1 hp with h | h
    · exact List.mem_append_left _ h
    · exact List.mem_append_right _ (hBF p h)
  have hlv : Wd (Y ++ F) lv (w :: a) := hlvB.mono mB
  have mL : ∀ p, p ∈ Y ++ F → p ∈ (rd, dRow hv sv rr rc rs) :: (rr, ARow.map es ck) :: (rc, .map ec kc) :: (rs, .map em km) :: (HY ++ (SY ++ (IY ++ (Y ++ F)))) := fun p hp => by
    simp only [List.mem_cons, List.mem_append]; simp only [List.mem_append] at hp; simp [hp]
  suffices h2 : CS Tryz.prog 105 [ptr rd, .int .i64 no, lv] ((rd, dRow hv sv rr rc rs) :: (rr, .map es ck) :: (rc, .map ec kc) :: (rs, .map em km) :: (HY ++ (SY ++ (IY ++ (Y ++ F))))) fun v L' => ∃ L₁, Sub L₁ L' ∧ Res rd B F (LN d no w a) v L₁ from
    h2.less fun v L' h => h
  have hend : ∀ x, Ends F (x :: (rd, dRow hv sv rr rc rs) :: (rr, ARow.map es ck) :: (rc, .map ec kc) :: (rs, .map em km) :: (HY ++ (SY ++ (IY ++ (Y ++ F))))) := fun x => by repeat (first | exact Ends.nil | apply Ends.cons | apply Ends.app)
  have hend' : ∀ x, Ends F (x :: (rr, ARow.map es ck) :: (rc, ARow.map ec kc) :: (rs, ARow.map em km) :: (HY ++ (SY ++ (IY ++ (Y ++ F))))) := fun x => by repeat (first | exact Ends.nil | apply Ends.cons | apply Ends.app)
  refine CS.mk (fn := Tryz.f105) rfl rfl rfl rfl ?_
  refine yG ?_
  repeat refine LS.seq ?_
  refine LS.drawn noGo mixed [(0, false), (1, false), (2, false), (3, false), (4, false), (5, false), (6, false)] rfl rfl (by kernel_rfl) ?_
  refine ODS.pure rfl rfl (fun _ => rfl) rfl ?_
  refine ODS.at1 (j := 0) ((hlv.mono mL).sv) (strs_get (ws := w :: a) (j := 0) rfl) rfl rfl rfl rfl rfl rfl rfl (fun ra0 oa0 rowa0 csa0 ma0 ca0 ga0 => ⟨_, rfl, ?_⟩)
  refine ODS.read rfl rfl (e_loadm ma0 ca0 rfl rfl (part_one rfl ga0)) rfl ?_
  refine ODS.pure rfl rfl (fun _ => rfl) rfl ?_
  refine ODS.sliceWO rfl 1 hlvB (fun p hp => mL p (mB p hp)) rfl rfl rfl rfl rfl rfl (by simp) fun av hav0 => ⟨_, rfl, ?_⟩
  have hav : Wd (Y ++ B) av a := hav0
  have havs := ((hav.mono mB).mono mL).sv
  obtain ⟨avA, avc, rfl⟩ := hav.form
  refine yG ?_
  rcases hR.find w with ⟨ht, hf⟩ | ⟨t, j, f, cap, ht, hf, hask⟩
  · rw [tab_none ht]
    have hf' : (match findB (str w) es 0 with | some (some (_, v)) => some (okTuple true v true) | some none => (match zeroVB Tryz.prog 262 with | some z => some (okTuple true z false) | none => none) | none => none) = some (.tuple #[.agg #[.int .u8 0, .int .u8 0, .int .i64 0, .int .i64 0, .nilFunc, .int .i64 0], .bool false]) := by rw [hf]; kernel_rfl
    refine yG ?_
    refine OS.read rfl (e_lookup 1 rfl rfl rfl rfl (by kernel_rfl) rfl hf') rfl ?_
    refine yG ?_
    refine OS.fresh rfl (e_new (fun _ => rfl) rfl) (fun _ => rfl) (fun r9 => ?_)
    refine yG ?_
    repeat refine LS.seq ?_
    refine LS.drawn noGo mixed [(0, false), (1, false), (2, false), (3, false), (4, false), (5, false), (6, false), (7, false), (8, false), (9, false), (10, false)] rfl rfl (by kernel_rfl) ?_
    refine yG ?_
    exact ⟨_, Sub.drops 0 rfl, rfl, by decide, hend _⟩
  · have hf' : (match findB (str w) es 0 with | some (some (_, v)) => some (okTuple true v true) | some none => (match zeroVB Tryz.prog 262 with | some z => some (okTuple true z false) | none => none) | none => none) = some (.tuple #[ruleV t f cap, .bool true]) := by rw [hf]; rfl
    rw [tab_some ht hok no a ha]
    have hpl : t.pl < 256 := by
      have hw := tab_words ht
      simp only [List.mem_cons, List.not_mem_nil, or_false, Prod.mk.injEq] at hw
      rcases hw with h | h | h | h | h | h | h | h | h | h | h | h | h | h | h | h <;> rw [h.2] <;> decide
    refine yG ?_
    refine OS.read rfl (e_lookup 1 rfl rfl rfl rfl (by kernel_rfl) rfl hf') rfl ?_
    refine yG ?_
    refine OS.fresh rfl (e_new (fun _ => rfl) rfl) (fun _ => rfl) (fun r9 => ?_)
    show OS _ _ _ _ ((r9, ARow.cells 262 [.int .u8 0, .int .u8 0, .int .i64 0, .int .i64 0, .nilFunc, .int .i64 0]) :: _) _
    refine OS.sub (Sub.pulls [1] rfl) ?_
    unfold ruleV
    refine yG ?_
    repeat refine LS.seq ?_
    refine LS.drawn noGo mixed [(0, false), (1, false), (2, false), (3, false), (4, false), (6, false), (7, false), (5, true), (8, true), (9, false), (10, false)] rfl rfl (by kernel_rfl) ?_
    refine yG ?_
    refine ODS.call rfl rfl (fun _ => rfl) ((place_ct hD (by simp; intro a b h; simp [h]) (by have h1 := hok.secs; have h2 := hok.c1; have h3 := hok.c2; omega) (fun s hs => by have := hok.items s hs; omega)).mono ?_)
    rintro v L' ⟨rfl, rfl⟩
    refine ⟨_, rfl, ?_, ?_⟩
    · exact Keep.cons rfl (e_load 1 rfl rfl rfl rfl rfl) Keep.nil
    refine yG ?_
    refine ODS.call rfl rfl (fun _ => rfl) ((mayStand_ct hpl (place_lt d)).mono ?_)
    rintro v L' ⟨rfl, rfl⟩
    refine ⟨_, rfl, ?_, ?_⟩
    · exact Keep.gone rfl Keep.nil
    have hB : (stand t.pl (placeN d) && (decide (t.lo ≤ a.length) && decide (a.length ≤ t.hi))) = true ∨ (stand t.pl (placeN d) && (decide (t.lo ≤ a.length) && decide (a.length ≤ t.hi))) = false := tf _
    unfold takeE
    rcases hB with hB | hB
    rotate_left
    · rw [hB, if_pos (by
        rw [Bool.and_eq_false_iff, Bool.and_eq_false_iff, decide_eq_false_iff_not, decide_eq_false_iff_not] at hB
        rcases hB with h | h | h
        · exact .inl h
        · exact .inr (.inl (by omega))
        · exact .inr (.inr (by omega)))]
      refine yG ?_
      exact ⟨_, Sub.drops 0 rfl, rfl, by decide, .cons (hend' _)⟩
    rw [hB]
    simp only [Bool.and_eq_true, decide_eq_true_eq] at hB
    obtain ⟨hst, hlo, hhi⟩ := hB
    rw [if_neg (by rw [hst]; rintro (h | h | h) <;> first | cases h | omega)]
    have hn2 : (t.ask = .nany ∨ t.ask = .nword) → a ≠ [] := fun h e => by
      have hw := tab_words ht
      simp only [List.mem_cons, List.not_mem_nil, or_false, Prod.mk.injEq] at hw
      subst e
      rcases hw with hx | hx | hx | hx | hx | hx | hx | hx | hx | hx | hx | hx | hx | hx | hx | hx <;> rw [hx.2] at h hlo <;> simp at h hlo
    refine yG ?_
    refine OS.call noGo rfl (fun _ => rfl) ((hask _ (by intro p hp; have hp := mB p hp; simp only [List.mem_cons, List.mem_append] at hp ⊢; simp [hp]) _ _ ((hav.mono mB).mono (by intro p hp; simp only [List.mem_cons, List.mem_append] at hp ⊢; simp [hp])) (by omega) (fun x hx => by have := hbd x (by simp [hx]); omega) hn2).mono ?_)
    rintro v L' ⟨rfl, rfl⟩
    refine ⟨_, rfl, ?_⟩
    by_cases hask0 : askE t.ask a = 0
    rotate_left
    · rw [if_pos hask0, errV_ne hask0]
      unfold eV
      refine yG ?_
      exact ⟨_, Sub.drops 0 rfl, (errV_ne hask0).symm, hask0, .cons (hend' _)⟩
    rw [if_neg (by simp [hask0]), show errV (askE t.ask a) = .nilIface by rw [hask0] <;> rfl]
    by_cases hb0 : t.b = 0
    rotate_left
    · have hbb : (!ieqB ((t.b : Nat) : Int) 0) = true := by rw [ieqB_eq]; simp; omega
      rw [if_pos hb0]
      obtain ⟨hw, hbk, honce, n, rfl⟩ := sec_word ht hb0 hlo hhi
      rw [honce]
      refine yG ?_
      rw [hbk]
      repeat refine LS.seq ?_
      refine LS.drawn noGo mixed [(0, false), (1, false), (2, false), (3, false), (4, false), (5, false), (6, false), (7, false), (8, false), (9, false), (10, false), (11, false), (12, true), (13, false)] rfl rfl (by kernel_rfl) ?_
      refine yG ?_
      refine ODS.sliceHi rfl 2 hlv.wl (by intro p hp; simp only [List.mem_cons, List.mem_append] at hp ⊢; simp [hp]) rfl rfl rfl rfl rfl rfl (by simp) fun cv hcv => ⟨_, rfl, ?_⟩
      refine yG ?_
      refine ODS.at1 (j := 0) (((hav.mono mB).mono (by intro p hp; simp only [List.mem_cons, List.mem_append] at hp ⊢; simp [hp])).sv) (strs_get (ws := [n]) (j := 0) rfl) rfl rfl rfl rfl rfl rfl rfl (fun ra0 oa0 rowa0 csa0 ma0 ca0 ga0 => ⟨_, rfl, ?_⟩)
      refine ODS.read rfl rfl (e_loadm ma0 ca0 rfl rfl (part_one rfl ga0)) rfl ?_
      refine ODS.pure rfl rfl (fun _ => rfl) rfl ?_
      refine yG ?_
      refine ODS.sub (Sub.drop 1 rfl) ?_
      refine ODS.call rfl rfl (fun _ => rfl) ((begin_ct h0 hw hcv.sv (hbd n (by simp))).mono ?_)
      intro v L' hres
      refine ⟨_, rfl, ?_, ?_⟩
      · exact Keep.gone rfl (Keep.gone rfl (Keep.gone rfl (Keep.gone rfl Keep.nil)))
      refine yG ?_
      exact ⟨L', Sub.drops 0 rfl, hres⟩
    · have hbb : (!ieqB ((t.b : Nat) : Int) 0) = false := by rw [ieqB_eq]; simp; omega
      rw [if_neg (by simp [hb0])]
      have honc := once_called ht hb0 hok hst hlo hbd
      refine yG ?_
      refine OS.sliceHi t.once hlv.wl (by intro p hp; simp only [List.mem_cons, List.mem_append] at hp ⊢; simp [hp]) rfl rfl rfl rfl rfl rfl honc.1 fun cv hcv => ⟨_, rfl, ?_⟩
      refine yG ?_
      refine OS.sub (Sub.drop 1 rfl) ?_
      have hcl : ((w :: a).take t.once).length = t.once := by rw [List.length_take]; omega
      refine OS.call noGo rfl (fun _ => rfl) ((add_ct (A := (w :: a).take t.once) h0 (by rw [hcl]; exact (by unfold strs; rw [List.map_take]; exact hcv.sv)) honc.2 hav).mono ?_)
      intro v L' hres
      refine ⟨_, rfl, ?_⟩
      refine yG ?_
      exact ⟨L', Sub.drops 0 rfl, hres⟩
end
end Go.Proofs.YtoadplnbajmcbaaGreatDoor
