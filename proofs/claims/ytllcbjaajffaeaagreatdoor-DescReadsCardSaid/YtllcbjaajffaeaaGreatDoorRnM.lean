import Derived.Test.YtllcbjaajffaeaaGreatDoorRl
import Derived.Test.YtllcbjaajffaeaaGreatDoorWlM
namespace Go.Am
section
variable {P : Program} {o : Oper} {a : Slots} {x y : Operand} {t z : TypeId}
theorem bits8 {m : Nat} (hm : m < 256) : bitsB .u8 (m : Int) = m := by
  unfold bitsB
  have : (ileB 0 (m : Int) && ileB (m : Int) (mostB .u8)) = true := by
    rw [Bool.and_eq_true, ileB_iff, ileB_iff]; exact ⟨by omega, by simp [mostB]; omega⟩
  rw [this]; simp
theorem e_and8 {m n : Nat} (ho : o.op = .binOp .and t x y z) (hx : aev a x = some (.int .u8 (m : Int))) (hy : aev a y = some (.int .u8 (n : Int))) (hm : m < 256) (hn : n < 256) : ∀ h, opB P a o h = some (.val (.int .u8 ((m &&& n : Nat) : Int)) h) := by
  intro h
  have hlt : m &&& n < 256 := Nat.and_lt_two_pow (n := 8) m hn
  have hi : inK .u8 ((m &&& n : Nat) : Int) = true := in_u8 (by omega) (by omega)
  simp only [opB, ho, hx, hy, eqOk, binB, if_true, bits8 hm, bits8 hn, wrap_in hi, ret]
theorem ODS.sliceHi {e : TypeId} {n : Nat} {v : Value} {cs : List Value} {F L : RL} {ops : List Oper} {ms : List Nat} {i : Nat} {sched : List (Nat × Bool)} {dn : Dn} {K : Slots → RL → Prop} {hi : Operand} {k : IntKind} (hq : ops[i]? = some o) (u : Nat) (hs : WL e F v n cs) (hF : ∀ p, p ∈ F → p ∈ L) (hw : wantedB ops o a = true) (ho : o.op = .slice t x none (some hi) none) (hx : aev a x = some v) (hhi : aev a hi = some (.int k (u : Nat)))
    (ht : P.underlying t = some (.slice e)) (hz : sizeB P e = some 1) (hu : u ≤ n) (c : ∀ v', WL e F v' u (cs.take u) → ∃ a₁, putAt a o.dst v' = some a₁ ∧ ODS P ops ms K sched ((i, a, v') :: dn) a₁ L) : ODS P ops ms K ((i, false) :: sched) dn a L := by
  obtain ⟨v', ⟨h1, _⟩, h2⟩ := e_sliceHi u hs hF ho hx hhi ht hz hu
  obtain ⟨a₁, ep, c⟩ := c v' h1
  exact ODS.read hq hw h2 ep c
theorem ODS.sub {P : Program} {ops : List Oper} {ms : List Nat} {K : Slots → RL → Prop} {sched : List (Nat × Bool)} {dn : Dn} {a : Slots} {L L' : RL} (s : Sub L' L) (k : ODS P ops ms K sched dn a L') : ODS P ops ms K sched dn a L := fun h H => k h (s.has H)
theorem OS.sliceHi {e : TypeId} {n : Nat} {v : Value} {cs : List Value} {F L : RL} {ops rest : List Oper} {K : Slots → RL → Prop} {hi : Operand} {k : IntKind} (u : Nat) (hs : WL e F v n cs) (hF : ∀ p, p ∈ F → p ∈ L) (hw : wantedB ops o a = true) (ho : o.op = .slice t x none (some hi) none) (hx : aev a x = some v) (hhi : aev a hi = some (.int k (u : Nat)))
    (ht : P.underlying t = some (.slice e)) (hz : sizeB P e = some 1) (hu : u ≤ n) (c : ∀ v', WL e F v' u (cs.take u) → ∃ a₁, putAt a o.dst v' = some a₁ ∧ OS P ops rest a₁ L K) : OS P ops (o :: rest) a L K := by
  obtain ⟨v', ⟨h1, _⟩, h2⟩ := e_sliceHi u hs hF ho hx hhi ht hz hu
  obtain ⟨a₁, ep, c⟩ := c v' h1
  exact OS.read hw h2 ep c
end
end Go.Am
namespace Go.Proofs.YtllcbjaajffaeaaGreatDoor
open Go.Am Go.Pd
set_option linter.unusedVariables false
set_option maxRecDepth 20000
set_option maxHeartbeats 4000000
attribute [local irreducible] OS LSr ODS CS YS
section
variable {F L Y B : RL} {rd : Nat} {d : Dc}
theorem mayStand_ct {t : Tb} {f : FuncId} {cap : List Value} {p n : Nat} (hpl : t.pl < 256) (hp : p < 256) : CS Tryz.prog 136 [ruleV t f cap, .int .u8 (p : Nat), .int .i64 (n : Nat)] L fun v L' => v = .bool (stand t.pl p && (decide (t.lo ≤ n) && decide (n ≤ t.hi))) ∧ L' = L := by
  have e1 : stand t.pl p = !ieqB ((t.pl &&& p : Nat) : Int) 0 := by
    unfold stand
    rw [ieqB_eq, Bool.eq_iff_iff]; simp
  have e2 : decide (t.lo ≤ n) = ileB (t.lo : Nat) (n : Nat) := by rw [ileB_eq, Bool.eq_iff_iff]; simp
  have e3 : decide (n ≤ t.hi) = ileB (n : Nat) (t.hi : Nat) := by rw [ileB_eq, Bool.eq_iff_iff]; simp
  rw [e1, e2, e3]
  refine CS.less (R := fun v L' => v = .bool (!ieqB ((t.pl &&& p : Nat) : Int) 0 && (ileB (t.lo : Nat) (n : Nat) && ileB (n : Nat) (t.hi : Nat))) ∧ ∃ x, L' = x :: L) ?_ fun v L' ⟨h1, x, h2⟩ => ⟨L, by rw [h2]; exact Sub.tail, h1, rfl⟩
  unfold ruleV
  refine CS.mk (fn := Tryz.f136) rfl rfl rfl rfl ?_
  refine yG ?_
  refine OS.fresh rfl (e_new (fun _ => rfl) rfl) (fun _ => rfl) (fun rb => ?_)
  show OS _ _ _ _ ((rb, ARow.cells 258 [.int .u8 (t.b : Nat), .int .u8 (t.pl : Nat), .int .i64 (t.lo : Nat), .int .i64 (t.hi : Nat), .func (.func f) #[] ⟨cap⟩, .int .i64 (t.once : Nat)]) :: _) _
  refine yG ?_
  refine OS.pure rfl (e_and8 rfl rfl rfl hpl hp) rfl ?_
  rcases tf (!ieqB ((t.pl &&& p : Nat) : Int) 0) with h1 | h1 <;> rcases tf (ileB (t.lo : Nat) (n : Nat)) with h2 | h2 <;> rcases tf (ileB (n : Nat) (t.hi : Nat)) with h3 | h3 <;> rw [h1, h2, h3]
  all_goals
    refine yG ?_
    exact ⟨rfl, _, rfl⟩
theorem place_lt (d : Dc) : placeN d < 256 := by unfold placeN; split; decide; split; decide; split <;> decide
theorem once_called {w : W} {t : Tb} {a : List W} (h : tabOf w = some t) (hb : t.b = 0) (hd : DcOk d) (hs : stand t.pl (placeN d) = true) (hl : t.lo ≤ a.length) (hbd : ∀ x, x ∈ w :: a → x.length ≤ 1000) : t.once ≤ (w :: a).length ∧ Called d w a ((w :: a).take t.once) := by
  have hne : t.pl = 14 → d.secs ≠ [] := fun e h => by
    rw [e, show placeN d = 1 by unfold placeN; rw [h]; rfl] at hs
    exact absurd hs (by decide)
  have hw := tab_words h
  simp only [List.mem_cons, List.not_mem_nil, or_false, Prod.mk.injEq] at hw
  have hwl := hbd w (List.mem_cons_self ..)
  rcases hw with ⟨rfl, rfl⟩ | ⟨rfl, rfl⟩ | ⟨rfl, rfl⟩ | ⟨rfl, rfl⟩ | ⟨rfl, rfl⟩ | ⟨rfl, rfl⟩ | ⟨rfl, rfl⟩ | ⟨rfl, rfl⟩ | ⟨rfl, rfl⟩ | ⟨rfl, rfl⟩ | ⟨rfl, rfl⟩ | ⟨rfl, rfl⟩ | ⟨rfl, rfl⟩ | ⟨rfl, rfl⟩ | ⟨rfl, rfl⟩ | ⟨rfl, rfl⟩
  · cases hb
  · cases hb
  · exact ⟨by simp, .inl ⟨rfl, by decide⟩⟩
  · exact ⟨by simp, .inl ⟨rfl, by decide⟩⟩
  · exact ⟨by simp, .inl ⟨rfl, by decide⟩⟩
  · exact ⟨by simp, .inl ⟨rfl, by decide⟩⟩
  · exact ⟨by simp, .inl ⟨rfl, by decide⟩⟩
  · exact ⟨by simp, .inl ⟨rfl, by decide⟩⟩
  · exact ⟨by simp, .inl ⟨rfl, by decide⟩⟩
  · cases a with
    | nil => simp at hl
    | cons x r =>
      have hx := hbd x (by simp)
      exact ⟨by simp, .inr ⟨by simp, by simp, by decide, by simpa [mtext] using jn2_eq kAxis x, by simp [mtext, jn2, kAxis]; omega, fun _ => by simp, hne rfl⟩⟩
  · exact ⟨by simp, .inr ⟨by simp, by simp, by decide, by simpa [mtext, kAxis, kWhen] using join1 kWhen, by simp [mtext, kAxis, kWhen], fun h => absurd h (by decide), hne rfl⟩⟩
  · exact ⟨by simp, .inl ⟨rfl, by decide⟩⟩
  · exact ⟨by simp, .inr ⟨by simp, by simp, by decide, by simpa [mtext, kAxis, kTries] using join1 kTries, by simp [mtext, kAxis, kTries], fun h => absurd h (by decide), hne rfl⟩⟩
  · exact ⟨by simp, .inr ⟨by simp, by simp, by decide, by simpa [mtext, kAxis, kLimit] using join1 kLimit, by simp [mtext, kAxis, kLimit], fun h => absurd h (by decide), hne rfl⟩⟩
  · exact ⟨by simp, .inr ⟨by simp, by simp, by decide, by simpa [mtext, kAxis, kManual] using join1 kManual, by simp [mtext, kAxis, kManual], fun h => absurd h (by decide), hne rfl⟩⟩
  · exact ⟨by simp, .inl ⟨rfl, by decide⟩⟩
theorem errV_ne {k : Nat} (h : k ≠ 0) : errV k = eV (k : Nat) := by cases k with | zero => exact absurd rfl h | succ n => rfl
theorem sec_word {w : W} {t : Tb} {a : List W} (h : tabOf w = some t) (hb : t.b ≠ 0) (h1 : t.lo ≤ a.length) (h2 : a.length ≤ t.hi) : (w = kTemplate ∨ w = kJob) ∧ t.b = (kindOf w).toNat ∧ t.once = 2 ∧ ∃ n, a = [n] := by
  have hw := tab_words h
  simp only [List.mem_cons, List.not_mem_nil, or_false, Prod.mk.injEq] at hw
  have h3 : (w = kTemplate ∧ t = ⟨1, 15, 1, 1, .name, 2⟩) ∨ (w = kJob ∧ t = ⟨2, 15, 1, 1, .name, 2⟩) := by
    rcases hw with hx | hx | hx | hx | hx | hx | hx | hx | hx | hx | hx | hx | hx | hx | hx | hx
    · exact .inl hx
    · exact .inr hx
    all_goals exact absurd (by rw [hx.2]) hb
  rcases h3 with ⟨rfl, rfl⟩ | ⟨rfl, rfl⟩
  · exact ⟨.inl rfl, by decide, rfl, List.length_eq_one_iff.1 (by simp at h1 h2; omega)⟩
  · exact ⟨.inr rfl, by decide, rfl, List.length_eq_one_iff.1 (by simp at h1 h2; omega)⟩
theorem take_ct {no : Int} {w : W} {a : List W} {lv : Value} (h : DS rd d Y B F L) (hlvB : Wd (Y ++ B) lv (w :: a)) (ha : a.length ≤ 400) (hbd : ∀ x, x ∈ w :: a → x.length ≤ 1000) :
    CS Tryz.prog 97 [ptr rd, .int .i64 no, lv] L fun v L' => Res rd B F (LN d no w a) v L' := by
  have h0 := h
  obtain ⟨rr, rc, rs, es, ck, ec, kc, em, km, hv, sv, HY, SY, IY, fc, fm, rfl, hBF, hok, hR, ⟨hC1, hC2⟩, ⟨hM1, hM2, hM3⟩, hD⟩ := h.ex
  have mB : ∀ p, p ∈ Y ++ B → p ∈ Y ++ F := fun p hp => by
    rcases List.mem_append.1 hp with h | h
    · exact List.mem_append_left _ h
    · exact List.mem_append_right _ (hBF p h)
  have hlv : Wd (Y ++ F) lv (w :: a) := hlvB.mono mB
  have mL : ∀ p, p ∈ Y ++ F → p ∈ (rd, dRow hv sv rr rc rs) :: (rr, ARow.map es ck) :: (rc, .map ec kc) :: (rs, .map em km) :: (HY ++ (SY ++ (IY ++ (Y ++ F)))) := fun p hp => by
    simp only [List.mem_cons, List.mem_append]; simp only [List.mem_append] at hp; simp [hp]
  suffices h2 : CS Tryz.prog 97 [ptr rd, .int .i64 no, lv] ((rd, dRow hv sv rr rc rs) :: (rr, .map es ck) :: (rc, .map ec kc) :: (rs, .map em km) :: (HY ++ (SY ++ (IY ++ (Y ++ F))))) fun v L' => ∃ L₁, Sub L₁ L' ∧ Res rd B F (LN d no w a) v L₁ from
    h2.less fun v L' h => h
  have hend : ∀ x, Ends F (x :: (rd, dRow hv sv rr rc rs) :: (rr, ARow.map es ck) :: (rc, .map ec kc) :: (rs, .map em km) :: (HY ++ (SY ++ (IY ++ (Y ++ F))))) := fun x => by repeat (first | exact Ends.nil | apply Ends.cons | apply Ends.app)
  have hend' : ∀ x, Ends F (x :: (rr, ARow.map es ck) :: (rc, ARow.map ec kc) :: (rs, ARow.map em km) :: (HY ++ (SY ++ (IY ++ (Y ++ F))))) := fun x => by repeat (first | exact Ends.nil | apply Ends.cons | apply Ends.app)
  refine CS.mk (fn := Tryz.f97) rfl rfl rfl rfl ?_
  refine yG ?_
  repeat refine LS.seq ?_
  refine LS.drawn noGo mixed [(0, false), (1, false), (2, false), (3, false), (4, false), (5, false), (6, false)] rfl rfl (by kernel_rfl) ?_
  refine ODS.pure rfl rfl (fun _ => rfl) rfl ?_
  refine ODS.at1 (j := 0) ((hlv.mono mL).sv) (strs_get (ws := w :: a) (j := 0) rfl) rfl rfl rfl rfl rfl rfl rfl (fun ra0 oa0 rowa0 csa0 ma0 ca0 ga0 => ⟨_, rfl, ?_⟩)
  refine ODS.read rfl rfl (e_loadm ma0 ca0 rfl rfl (part_one rfl ga0)) rfl ?_
  refine ODS.pure rfl rfl (fun _ => rfl) rfl ?_
  refine ODS.sliceWO rfl 1 hlvB (fun p hp => mL p (mB p hp)) rfl rfl rfl rfl rfl rfl (by simp) fun av hav0 => ⟨_, rfl, ?_⟩
  have hav : Wd (Y ++ B) av a := hav0
  have havs := ((hav.mono mB).mono mL).sv
  obtain ⟨avA, avc, rfl⟩ := hav.form
  refine yG ?_
  rcases hR.find w with ⟨ht, hf⟩ | ⟨t, j, f, cap, ht, hf, hask⟩
  · rw [tab_none ht]
    have hf' : (match findB (str w) es 0 with | some (some (_, v)) => some (okTuple true v true) | some none => (match zeroVB Tryz.prog 258 with | some z => some (okTuple true z false) | none => none) | none => none) = some (.tuple #[.agg #[.int .u8 0, .int .u8 0, .int .i64 0, .int .i64 0, .nilFunc, .int .i64 0], .bool false]) := by rw [hf]; kernel_rfl
    refine yG ?_
    refine OS.read rfl (e_lookup 1 rfl rfl rfl rfl (by kernel_rfl) rfl hf') rfl ?_
    refine yG ?_
    refine OS.fresh rfl (e_new (fun _ => rfl) rfl) (fun _ => rfl) (fun r9 => ?_)
    refine yG ?_
    repeat refine LS.seq ?_
    refine LS.drawn noGo mixed [(0, false), (1, false), (2, false), (3, false), (4, false), (5, false), (6, false), (7, false), (8, false), (9, false), (10, false)] rfl rfl (by kernel_rfl) ?_
    refine yG ?_
    exact ⟨_, Sub.drops 0 rfl, rfl, by decide, hend _⟩
  · have hf' : (match findB (str w) es 0 with | some (some (_, v)) => some (okTuple true v true) | some none => (match zeroVB Tryz.prog 258 with | some z => some (okTuple true z false) | none => none) | none => none) = some (.tuple #[ruleV t f cap, .bool true]) := by rw [hf]; rfl
    rw [tab_some ht hok no a ha]
    have hpl : t.pl < 256 := by
      have hw := tab_words ht
      simp only [List.mem_cons, List.not_mem_nil, or_false, Prod.mk.injEq] at hw
      rcases hw with h | h | h | h | h | h | h | h | h | h | h | h | h | h | h | h <;> rw [h.2] <;> decide
    refine yG ?_
    refine OS.read rfl (e_lookup 1 rfl rfl rfl rfl (by kernel_rfl) rfl hf') rfl ?_
    refine yG ?_
    refine OS.fresh rfl (e_new (fun _ => rfl) rfl) (fun _ => rfl) (fun r9 => ?_)
    show OS _ _ _ _ ((r9, ARow.cells 258 [.int .u8 0, .int .u8 0, .int .i64 0, .int .i64 0, .nilFunc, .int .i64 0]) :: _) _
    refine OS.sub (Sub.pulls [1] rfl) ?_
    unfold ruleV
    refine yG ?_
    repeat refine LS.seq ?_
    refine LS.drawn noGo mixed [(0, false), (1, false), (2, false), (3, false), (4, false), (6, false), (7, false), (5, true), (8, true), (9, false), (10, false)] rfl rfl (by kernel_rfl) ?_
    refine yG ?_
    refine ODS.call rfl rfl (fun _ => rfl) ((place_ct hD (by simp; intro a b h; simp [h]) (by have h1 := hok.secs; have h2 := hok.c1; have h3 := hok.c2; omega) (fun s hs => by have := hok.items s hs; omega)).mono ?_)
    rintro v L' ⟨rfl, rfl⟩
    refine ⟨_, rfl, ?_, ?_⟩
    · exact Keep.cons rfl (e_load 1 rfl rfl rfl rfl rfl) Keep.nil
    refine yG ?_
    refine ODS.call rfl rfl (fun _ => rfl) ((mayStand_ct hpl (place_lt d)).mono ?_)
    rintro v L' ⟨rfl, rfl⟩
    refine ⟨_, rfl, ?_, ?_⟩
    · exact Keep.gone rfl Keep.nil
    have hB : (stand t.pl (placeN d) && (decide (t.lo ≤ a.length) && decide (a.length ≤ t.hi))) = true ∨ (stand t.pl (placeN d) && (decide (t.lo ≤ a.length) && decide (a.length ≤ t.hi))) = false := tf _
    unfold takeE
    rcases hB with hB | hB
    rotate_left
    · rw [hB, if_pos (by
        rw [Bool.and_eq_false_iff, Bool.and_eq_false_iff, decide_eq_false_iff_not, decide_eq_false_iff_not] at hB
        rcases hB with h | h | h
        · exact .inl h
        · exact .inr (.inl (by omega))
        · exact .inr (.inr (by omega)))]
      refine yG ?_
      exact ⟨_, Sub.drops 0 rfl, rfl, by decide, .cons (hend' _)⟩
    rw [hB]
    simp only [Bool.and_eq_true, decide_eq_true_eq] at hB
    obtain ⟨hst, hlo, hhi⟩ := hB
    rw [if_neg (by rw [hst]; rintro (h | h | h) <;> first | cases h | omega)]
    have hn2 : (t.ask = .nany ∨ t.ask = .nword) → a ≠ [] := fun h e => by
      have hw := tab_words ht
      simp only [List.mem_cons, List.not_mem_nil, or_false, Prod.mk.injEq] at hw
      subst e
      rcases hw with hx | hx | hx | hx | hx | hx | hx | hx | hx | hx | hx | hx | hx | hx | hx | hx <;> rw [hx.2] at h hlo <;> simp at h hlo
    refine yG ?_
    refine OS.call noGo rfl (fun _ => rfl) ((hask _ (by intro p hp; have hp := mB p hp; simp only [List.mem_cons, List.mem_append] at hp ⊢; simp [hp]) _ _ ((hav.mono mB).mono (by intro p hp; simp only [List.mem_cons, List.mem_append] at hp ⊢; simp [hp])) (by omega) (fun x hx => by have := hbd x (by simp [hx]); omega) hn2).mono ?_)
    rintro v L' ⟨rfl, rfl⟩
    refine ⟨_, rfl, ?_⟩
    by_cases hask0 : askE t.ask a = 0
    rotate_left
    · rw [if_pos hask0, errV_ne hask0]
      unfold eV
      refine yG ?_
      exact ⟨_, Sub.drops 0 rfl, (errV_ne hask0).symm, hask0, .cons (hend' _)⟩
    rw [if_neg (by simp [hask0]), show errV (askE t.ask a) = .nilIface by rw [hask0] <;> rfl]
    by_cases hb0 : t.b = 0
    rotate_left
    · have hbb : (!ieqB ((t.b : Nat) : Int) 0) = true := by rw [ieqB_eq]; simp; omega
      rw [if_pos hb0]
      obtain ⟨hw, hbk, honce, n, rfl⟩ := sec_word ht hb0 hlo hhi
      rw [honce]
      refine yG ?_
      rw [hbk]
      repeat refine LS.seq ?_
      refine LS.drawn noGo mixed [(0, false), (1, false), (2, false), (3, false), (4, false), (5, false), (6, false), (7, false), (8, false), (9, false), (10, false), (11, false), (12, true), (13, false)] rfl rfl (by kernel_rfl) ?_
      refine yG ?_
      refine ODS.sliceHi rfl 2 hlv.wl (by intro p hp; simp only [List.mem_cons, List.mem_append] at hp ⊢; simp [hp]) rfl rfl rfl rfl rfl rfl (by simp) fun cv hcv => ⟨_, rfl, ?_⟩
      refine yG ?_
      refine ODS.at1 (j := 0) (((hav.mono mB).mono (by intro p hp; simp only [List.mem_cons, List.mem_append] at hp ⊢; simp [hp])).sv) (strs_get (ws := [n]) (j := 0) rfl) rfl rfl rfl rfl rfl rfl rfl (fun ra0 oa0 rowa0 csa0 ma0 ca0 ga0 => ⟨_, rfl, ?_⟩)
      refine ODS.read rfl rfl (e_loadm ma0 ca0 rfl rfl (part_one rfl ga0)) rfl ?_
      refine ODS.pure rfl rfl (fun _ => rfl) rfl ?_
      refine yG ?_
      refine ODS.sub (Sub.drop 1 rfl) ?_
      refine ODS.call rfl rfl (fun _ => rfl) ((begin_ct h0 hw hcv.sv (hbd n (by simp))).mono ?_)
      intro v L' hres
      refine ⟨_, rfl, ?_, ?_⟩
      · exact Keep.gone rfl (Keep.gone rfl (Keep.gone rfl (Keep.gone rfl Keep.nil)))
      refine yG ?_
      exact ⟨L', Sub.drops 0 rfl, hres⟩
    · have hbb : (!ieqB ((t.b : Nat) : Int) 0) = false := by rw [ieqB_eq]; simp; omega
      rw [if_neg (by simp [hb0])]
      have honc := once_called ht hb0 hok hst hlo hbd
      refine yG ?_
      refine OS.sliceHi t.once hlv.wl (by intro p hp; simp only [List.mem_cons, List.mem_append] at hp ⊢; simp [hp]) rfl rfl rfl rfl rfl rfl honc.1 fun cv hcv => ⟨_, rfl, ?_⟩
      refine yG ?_
      refine OS.sub (Sub.drop 1 rfl) ?_
      have hcl : ((w :: a).take t.once).length = t.once := by rw [List.length_take]; omega
      refine OS.call noGo rfl (fun _ => rfl) ((add_ct (A := (w :: a).take t.once) h0 (by rw [hcl]; exact (by unfold strs; rw [List.map_take]; exact hcv.sv)) honc.2 hav).mono ?_)
      intro v L' hres
      refine ⟨_, rfl, ?_⟩
      refine yG ?_
      exact ⟨L', Sub.drops 0 rfl, hres⟩
end
end Go.Proofs.YtllcbjaajffaeaaGreatDoor
namespace Go.Proofs.YtllcbjaajffaeaaGreatDoor
open Go.Am Go.Pd
set_option linter.unusedVariables false
set_option maxRecDepth 20000
set_option maxHeartbeats 4000000
attribute [local irreducible] OS LSr ODS CS YS
def spD (s : W) : Except Nat (List W) := if s.length > 400 then .error 40 else match splitW s with
  | none => .error 4
  | some ws => .ok ws
theorem splF_bound : ∀ (f : Nat) (s : W) (ws : List W), splF f s = some ws → ws.length ≤ s.length ∧ ∀ w, w ∈ ws → w.length ≤ s.length
  | 0, _, _, h => by cases h
  | f + 1, [], ws, h => by simp [splF] at h; subst h; simp
  | f + 1, c :: t, ws, h => by
    simp only [splF] at h
    split at h
    · split at h
      · cases h
      · simp at h; subst h; simp
    · split at h
      · cases h
      · rename_i h1 h2
        have hlt := next_lt h2
        have hw := (word_le (c :: t)).2
        cases hx : splF f (((c :: t).drop (wordK (c :: t)).2).dropWhile isBl) with
        | none => rw [hx] at h; cases h
        | some vs =>
          rw [hx] at h
          simp at h
          subst h
          have hb := splF_bound f _ vs hx
          simp only [List.length_cons] at hlt hw ⊢
          refine ⟨by omega, fun w hm => ?_⟩
          rcases List.mem_cons.1 hm with rfl | hm
          · exact hw
          · have := hb.2 w hm; omega
theorem splitW_bound {s : W} {ws : List W} (h : splitW s = some ws) : ws.length ≤ s.length ∧ ∀ w, w ∈ ws → w.length ≤ s.length := by
  have h1 := dw_le s
  have h2 := splF_bound _ _ _ h
  exact ⟨by omega, fun w hm => by have := h2.2 w hm; omega⟩
theorem sp_cases (s : W) : (∃ e, e ≠ 0 ∧ spD s = .error e ∧ errOf s = (e : Nat) ∧ wordsOf s = []) ∨ (∃ ws, spD s = .ok ws ∧ errOf s = 0 ∧ wordsOf s = ws ∧ ws.length ≤ 400 ∧ ∀ w, w ∈ ws → w.length ≤ 400) := by
  unfold spD errOf wordsOf
  by_cases h : s.length > 400
  · rw [if_pos h, if_pos h, if_pos h]; exact .inl ⟨40, by decide, rfl, rfl, rfl⟩
  · rw [if_neg h, if_neg h, if_neg h]
    cases hs : splitW s with
    | none => exact .inl ⟨4, by decide, rfl, rfl, rfl⟩
    | some ws =>
      have := splitW_bound hs
      exact .inr ⟨ws, rfl, rfl, rfl, by omega, fun w hm => by have := this.2 w hm; omega⟩
def readE (d : Dc) (no : Int) (s : W) : Except Nat Dc := match spD s with
  | .error e => .error e
  | .ok [] => .ok d
  | .ok (w :: a) => LN d no w a
section
variable {F L Y B : RL} {rd : Nat} {d : Dc}
theorem DS.row (h : DS rd d Y B F L) (x : Nat × ARow) : ∃ L', Sub L' (x :: L) ∧ DS rd d (x :: Y) B F L' := by
  obtain ⟨rr, rc, rs, es, ck, ec, kc, em, km, hv, sv, HY, SY, IY, fc, fm, rfl, hBF, hok, hR, hC, hM, hD⟩ := h.ex
  refine ⟨(rd, dRow hv sv rr rc rs) :: (rr, .map es ck) :: (rc, .map ec kc) :: (rs, .map em km) :: (HY ++ (SY ++ (IY ++ ((x :: Y) ++ F)))), Sub.sums fun f => by simp <;> omega, ⟨rr, rc, rs, es, ck, ec, kc, em, km, hv, sv, HY, SY, IY, fc, fm, rfl, hBF, hok, hR.mono fun p hp => List.mem_cons_of_mem _ hp, hC, hM, hD.mono fun p hp => List.mem_cons_of_mem _ hp⟩⟩
theorem DS.ends (h : DS rd d Y B F L) : Ends F L := by
  obtain ⟨rr, rc, rs, es, ck, ec, kc, em, km, hv, sv, HY, SY, IY, fc, fm, rfl, _⟩ := h.ex
  repeat (first | exact Ends.nil | apply Ends.cons | apply Ends.app)
theorem newDraft_ct {g : Gn} (hG : GL g F) (hG0 : GL g B) (hBF : ∀ p, p ∈ B → p ∈ F) : CS Tryz.prog 69 [] F fun v L' => ∃ rd Y, v = ptr rd ∧ DS rd ⟨[], []⟩ Y B F L' := by
  refine CS.mk (fn := Tryz.f69) rfl rfl rfl rfl ?_
  refine yG ?_
  refine OS.call noGo rfl (fun _ => rfl) ((rules_ct hG hG0).mono ?_)
  rintro v L' ⟨rr, es, ck, Y, rfl, rfl, hR⟩
  refine ⟨_, rfl, ?_⟩
  refine yG ?_
  refine OS.fresh rfl (e_makeMap rfl rfl rfl) (fun _ => rfl) (fun rc => ?_)
  refine yG ?_
  refine OS.fresh rfl (e_makeMap rfl rfl rfl) (fun _ => rfl) (fun rs => ?_)
  refine yG ?_
  refine OS.fresh rfl (e_new (fun _ => rfl) rfl) (fun _ => rfl) (fun rd => ?_)
  show OS _ _ _ _ ((rd, dRow (.slice none 0 0) (.slice none 0 0) rr rc rs) :: _) _
  refine OS.sub (Sub.pulls [1, 2, 3, 3] rfl) ?_
  refine yG ?_
  refine ⟨rd, Y, rfl, ⟨rr, rc, rs, es, ck, [], 0, [], 0, .slice none 0 0, .slice none 0 0, [], [], [], fun _ => none, fun _ => none, rfl, hBF, ⟨by simp, by simp, rfl, by decide, by decide⟩, hR, ⟨MapIs.nil, fun c _ => .inl ⟨rfl, rfl⟩⟩, ⟨MapIs.nil, fun k v h => (by cases h), ⟨fun w n _ => by simp, fun w a _ _ h => absurd rfl h, fun _ _ _ => rfl⟩⟩, .none GV.nil rfl⟩⟩
theorem dread_ct {no : Int} {s : W} (h : DS rd d Y B F L) (hs : s.length ≤ 9000000000000000) : CS Tryz.prog 70 [ptr rd, .int .i64 no, str s] L fun v L' => Res rd B F (readE d no s) v L' := by
  suffices h2 : CS Tryz.prog 70 [ptr rd, .int .i64 no, str s] L fun v L' => ∃ L₁, Sub L₁ L' ∧ Res rd B F (readE d no s) v L₁ from h2.less fun v L' h => h
  refine CS.mk (fn := Tryz.f70) rfl rfl rfl rfl ?_
  refine yG ?_
  refine OS.call noGo rfl (fun _ => rfl) ((Split_ct s hs).mono ?_)
  rintro v L' ⟨u, rfl, hg⟩
  rcases sp_cases s with ⟨e, he, h1, h2, h3⟩ | ⟨ws, h1, h2, h3, h4, h5⟩
  · rw [h2]
    rw [h3] at hg
    have hb : (!ieqB ((e : Nat) : Int) 0) = true := by rw [ieqB_eq]; simp; omega
    unfold readE
    rw [h1]
    refine ⟨_, rfl, ?_⟩
    refine yG ?_
    have hE : Ends F L' := by rcases hg with ⟨_, _, _, rfl⟩ | ⟨r, _, _, rfl⟩; exact h.ends; exact h.ends.cons
    exact ⟨L', Sub.drops 0 rfl, (errV_ne he).symm, he, hE⟩
  · rw [h2]
    rw [h3] at hg
    unfold readE
    rw [h1]
    cases ws with
    | nil =>
      rcases hg with ⟨rfl, _, _, rfl⟩ | ⟨r, rfl, _, rfl⟩
      · refine ⟨_, rfl, ?_⟩
        refine yG ?_
        exact ⟨_, Sub.drops 0 rfl, rfl, Y, h⟩
      · obtain ⟨L2, hs2, h2⟩ := h.row (r, .cells 9 (strs []))
        refine ⟨_, rfl, ?_⟩
        refine yG ?_
        exact ⟨L2, hs2, rfl, _, h2⟩
    | cons w a =>
      have hb : ieqB (((w :: a).length : Nat) : Int) 0 = false := by rw [ieqB_eq]; simp; omega
      rcases hg with ⟨rfl, h6, _, rfl⟩ | ⟨r, rfl, h6, rfl⟩
      · simp at h6
      · obtain ⟨L2, hs2, h7⟩ := h.row (r, .cells 9 (strs (w :: a)))
        refine ⟨_, rfl, ?_⟩
        refine yG ?_
        refine OS.sub hs2 ?_
        refine OS.call noGo rfl (fun _ => rfl) ((take_ct h7 (.inr ⟨r, 0, openCap, _, _, rfl, List.mem_cons_self .., rfl, cut_all h6, .inl ⟨rfl, rfl, allS_strs _⟩⟩) (by simp at h4; omega) (fun x hx => by have := h5 x hx; omega)).mono ?_)
        intro v L' hres
        refine ⟨_, rfl, ?_⟩
        refine yG ?_
        exact ⟨L', Sub.drops 0 rfl, hres⟩
end
end Go.Proofs.YtllcbjaajffaeaaGreatDoor
namespace Go.Am
theorem res_cc (i j : Nat) {P : Program} {a : Slots} {L : RL} {x y r off r' off' : Nat} {t t' : TypeId} {row row' : ARow} {cs cs' : List Value} {v u : Value} (hx : a[x]? = some (.pointer (some ⟨r, off, none⟩))) (hL : L[i]? = some (r, row)) (hc : rdRow row = some cs) (hv : partB P t cs off = some v)
    (hy : a[y]? = some (.pointer (some ⟨r', off', none⟩))) (hL' : L[j]? = some (r', row')) (hc' : rdRow row' = some cs') (hv' : partB P t' cs' off' = some u) : ∀ h, Has h L → resultsB P a h [.cell x t, .cell y t'] = some [v, u] := by
  intro h H
  have hl : loadB P t (.pointer (some ⟨r, off, none⟩)) h = some v := by simp only [loadB, H.read hL hc, hv]
  have hl' : loadB P t' (.pointer (some ⟨r', off', none⟩)) h = some u := by simp only [loadB, H.read hL' hc', hv']
  simp only [resultsB, hx, hl, hy, hl']
end Go.Am
namespace Go.Proofs.YtllcbjaajffaeaaGreatDoor
open Go.Am Go.Pd
set_option linter.unusedVariables false
set_option maxRecDepth 20000
set_option maxHeartbeats 4000000
attribute [local irreducible] OS LSr ODS CS YS
section
variable {F L Y B : RL} {rd : Nat} {d : Dc}
theorem DS.split (h : DS rd d Y B F L) : ∃ C, L = C ++ F ∧ ∀ F', (∀ p, p ∈ B → p ∈ F') → DS rd d Y B F' (C ++ F') := by
  obtain ⟨rr, rc, rs, es, ck, ec, kc, em, km, hv, sv, HY, SY, IY, fc, fm, rfl, hBF, hr⟩ := h.ex
  refine ⟨(rd, dRow hv sv rr rc rs) :: (rr, .map es ck) :: (rc, .map ec kc) :: (rs, .map em km) :: (HY ++ (SY ++ (IY ++ Y))), by simp, fun F' hB => ⟨rr, rc, rs, es, ck, ec, kc, em, km, hv, sv, HY, SY, IY, fc, fm, by simp, hB, hr⟩⟩
theorem cuts_count (c : UInt8) : ∀ s : W, (cuts c s).length ≤ s.length + 1
  | [] => by simp [cuts]
  | b :: t => by
    have := cuts_count c t
    unfold cuts
    split
    · simp; omega
    · cases h : cuts c t with
      | nil => simp
      | cons x r => rw [h] at this; simp at this ⊢; omega
theorem readL_E {no : Nat} {s : W} {r : List W} : readL chk spD no d (s :: r) = match readE d (no : Int) s with
  | .error e => .error (no, e)
  | .ok d' => readL chk spD (no + 1) d' r := by
  unfold readE
  rw [readL]
  cases spD s with
  | error e => rfl
  | ok l => cases l with
    | nil => rfl
    | cons w a => rfl
abbrev tD : Nat := 26
def DocV (M : RL) (v : Value) (d : Dc) : Prop := ∃ hv sv hcs scs, v = .agg #[hv, sv] ∧ SV 3 M hv d.head.length hcs ∧ ItsR M d.head hcs ∧ SV 4 M sv d.secs.length scs ∧ SecsR M d.secs scs
theorem forms_of {M HY SY IY : RL} {hv sv : Value} (h : DocM tI tS M hv sv d HY SY IY) : (∃ A n c, hv = .slice A n c) ∧ ∃ A n c, sv = .slice A n c := by
  cases h with
  | none hh hi => exact ⟨by rcases hh with ⟨rfl, _⟩ | ⟨r, rfl, _⟩ <;> exact ⟨_, _, _, rfl⟩, _, _, _, rfl⟩
  | some hh hi hS hg hy => exact ⟨by rcases hh with ⟨rfl, _⟩ | ⟨r, rfl, _⟩ <;> exact ⟨_, _, _, rfl⟩, _, _, _, rfl⟩
theorem doc_of {M HY SY IY : RL} {hv sv : Value} (h : DocM tI tS M hv sv d HY SY IY) (hm : ∀ p, p ∈ M → p ∈ L) (h1 : ∀ p, p ∈ HY → p ∈ L) (h2 : ∀ p, p ∈ SY → p ∈ L) (h3 : ∀ p, p ∈ IY → p ∈ L) : DocV L (.agg #[hv, sv]) d := by
  cases h with
  | none hh hi => exact ⟨_, _, _, [], rfl, hh.sv.up h1, hi.mono hm, .inl ⟨rfl, rfl, rfl⟩, rfl⟩
  | some hh hi hS hg hy =>
    rename_i hd cs S y cs0 ics iv rS
    have hl := hS.len
    have hgs : GV tS 4 [] (.slice (some ⟨rS, 0, none⟩) (S.length + 1) openCap) (S.length + 1) (cs0 ++ secC y.no y.kind y.name iv) ((rS, .cells tS (cs0 ++ secC y.no y.kind y.name iv)) :: []) := .inr ⟨rS, rfl, by simp [hl]; omega, rfl⟩
    exact ⟨_, _, _, _, rfl, hh.sv.up h1, hi.mono hm, by rw [List.length_append]; exact hgs.sv.up h2, (hS.mono hm).snoc ⟨hg.sv.up h3, hy.mono hm⟩⟩
theorem dread2_ct {g : Gn} (hG : GL g F) (hG0 : GL g B) (hB : ∀ p, p ∈ B → p ∈ F) {s : W} (hs : s.length ≤ 1000000000000) : CS Tryz.prog 39 [str s] F fun v L' => match readL chk spD 1 ⟨[], []⟩ (segs s) with
    | .error (no, e) => v = .tuple #[.agg #[.slice none 0 0, .slice none 0 0], fV no e] ∧ Ends F L'
    | .ok d => ∃ u Z, v = .tuple #[u, .nilIface] ∧ L' = Z ++ F ∧ DocV (Z ++ B) u d := by
  rw [segs_cuts]
  refine CS.mk (fn := Tryz.f39) rfl rfl rfl rfl ?_
  refine yG ?_
  refine OS.fresh rfl (e_new (fun _ => rfl) rfl) (fun _ => rfl) (fun r2 => ?_)
  show OS _ _ _ _ ((r2, ARow.cells tD [.slice none 0 0, .slice none 0 0]) :: _) _
  refine yG ?_
  refine OS.fresh rfl (e_new (fun _ => rfl) rfl) (fun _ => rfl) (fun r3 => ?_)
  show OS _ _ _ _ ((r3, ARow.cells 90 [.nilIface]) :: _) _
  refine yG ?_
  refine OS.call noGo rfl (fun _ => rfl) ((newDraft_ct (B := B) ((hG.mono fun p hp => List.mem_cons_of_mem _ hp).mono fun p hp => List.mem_cons_of_mem _ hp) hG0 (fun p hp => List.mem_cons_of_mem _ (List.mem_cons_of_mem _ (hB p hp)))).mono ?_)
  rintro v L₀ ⟨rd, Y₀, rfl, hD₀⟩
  obtain ⟨C₀, rfl, hC₀⟩ := hD₀.split
  refine ⟨_, rfl, ?_⟩
  refine yG ?_
  refine OS.fresh rfl (e_new (fun _ => rfl) rfl) (fun _ => rfl) (fun r4 => ?_)
  refine yG ?_
  refine OS.fresh rfl (e_new (fun _ => rfl) rfl) (fun _ => rfl) (fun r5 => ?_)
  refine yG ?_
  refine OS.call noGo rfl (fun _ => rfl) ((SplitSeq_ct s 10).mono ?_)
  rintro v L' ⟨rs, rp, rz, rfl, rfl⟩
  refine ⟨_, rfl, ?_⟩
  refine yG ?_
  refine LS.rangeFunc noGo rfl (fun r => ?_)
  generalize hp0 : LP.start _ _ _ _ = p0
  refine CS.sub (Sub.sums (A := (rz, iRow 0) :: (rp, sRow [10]) :: (rs, sRow s) :: (r, .loop p0) :: (r5, .cells 3 [.int .i64 ((0 : Nat) : Int)]) :: (r4, .cells 159 [ptr rd]) :: (r3, .cells 90 [.nilIface]) :: (r2, .cells tD [.slice none 0 0, .slice none 0 0]) :: (C₀ ++ F)) fun f => by simp <;> omega) ((split1_ct (s := s) (c := 10) (r := r) (G := (r, .loop p0) :: (r5, .cells 3 [.int .i64 ((0 : Nat) : Int)]) :: (r4, .cells 159 [ptr rd]) :: (r3, .cells 90 [.nilIface]) :: (r2, .cells tD [.slice none 0 0, .slice none 0 0]) :: (C₀ ++ F)) hs
    (fun k G => ∃ d C, readL chk spD 1 ⟨[], []⟩ (cuts 10 s) = readL chk spD (k + 1) d ((cuts 10 s).drop k) ∧ (∃ Y, ∀ F', (∀ p, p ∈ B → p ∈ F') → DS rd d Y B F' (C ++ F')) ∧ G = (r, .loop p0) :: (r5, .cells 3 [.int .i64 ((k : Nat) : Int)]) :: (r4, .cells 159 [ptr rd]) :: (r3, .cells 90 [.nilIface]) :: (r2, .cells tD [.slice none 0 0, .slice none 0 0]) :: (C ++ F))
    (fun G => ∃ Z no e, readL chk spD 1 ⟨[], []⟩ (cuts 10 s) = .error (no, e) ∧ G = (r, .loop (p0.left .ret)) :: (r5, .cells 3 [.int .i64 ((no : Nat) : Int)]) :: (r4, .cells 159 [ptr rd]) :: (r3, .cells 90 [fV no e]) :: (r2, .cells tD [.slice none 0 0, .slice none 0 0]) :: (Z ++ F))
    (fun k G ⟨_, _, _, _, hG⟩ => ⟨p0, by rw [hG]; simp⟩) ⟨⟨[], []⟩, C₀, rfl, ⟨Y₀, hC₀⟩, rfl⟩ ?_).mono ?_)
  · rintro k w G X hget ⟨d, C, hE, ⟨Y, hD⟩, rfl⟩
    have hklt := (List.getElem?_eq_some_iff.1 hget).1
    have hkl := Nat.lt_of_lt_of_le hklt (cuts_count 10 s)
    have hdrop : (cuts 10 s).drop k = w :: (cuts 10 s).drop (k + 1) := by rw [List.drop_eq_getElem_cons hklt, (List.getElem?_eq_some_iff.1 hget).2]
    have hwl : w.length ≤ 1000000000000 := Nat.le_trans (Go.Pd.cuts_len (List.mem_of_getElem? hget)) hs
    rw [hdrop, readL_E] at hE
    simp only [List.cons_append, List.append_assoc]
    subst hp0
    refine YS.mk 0 rfl rfl rfl ?_
    refine yG ?_
    refine ⟨rfl, 0, _, rfl, rfl, ?_⟩
    generalize hp1 : LP.busy _ = p1
    refine yG ?_
    refine OS.sub (Sub.sums (A := C ++ ((r, .loop p1) :: (r5, .cells 3 [.int .i64 ((k + 1 : Nat) : Int)]) :: (r4, .cells 159 [ptr rd]) :: (r3, .cells 90 [.nilIface]) :: (r2, .cells tD [.slice none 0 0, .slice none 0 0]) :: (F ++ X))) fun f => by simp <;> omega) ?_
    refine OS.call noGo rfl (fun _ => rfl) ((dread_ct (no := ((k + 1 : Nat) : Int)) (hD _ fun p hp => by simp [hB p hp]) (Nat.le_trans hwl (by decide))).mono ?_)
    rintro v L' hres
    refine ⟨_, rfl, ?_⟩
    cases he : readE d ((k + 1 : Nat) : Int) w with
    | error e =>
      rw [he] at hres hE
      obtain ⟨rfl, hne, Z, rfl⟩ := hres
      rw [errV_ne hne]
      unfold eV
      refine OS.sub (Sub.sums (A := (r, .loop p1) :: (r5, .cells 3 [.int .i64 ((k + 1 : Nat) : Int)]) :: (r4, .cells 159 [ptr rd]) :: (r3, .cells 90 [.nilIface]) :: (r2, .cells tD [.slice none 0 0, .slice none 0 0]) :: (Z ++ (F ++ X))) fun f => by simp <;> omega) ?_
      refine yG ?_
      repeat refine LS.seq ?_
      refine LS.drawn noGo mixed [(0, false), (1, false), (2, false), (3, false), (4, false), (5, true), (6, true)] rfl rfl (by kernel_rfl) ?_
      refine yG ?_
      refine ODS.write rfl rfl (e_store 4 rfl rfl rfl rfl rfl rfl rfl rfl) rfl (Keep.cons rfl (e_load 1 rfl rfl rfl rfl rfl) Keep.nil) ?_
      refine yG ?_
      refine ODS.write rfl rfl (e_store 3 rfl rfl rfl rfl rfl rfl rfl rfl) rfl (Keep.gone rfl Keep.nil) ?_
      refine yG ?_
      show LSr _ _ _ _ _ _
      refine LS.ret ?_
      subst hp1
      exact ⟨0, _, rfl, rfl, _, (by simp <;> rfl), .inr ⟨rfl, Z, k + 1, e, hE, rfl⟩⟩
    | ok d' =>
      rw [he] at hres hE
      obtain ⟨rfl, Y', hD'⟩ := hres
      obtain ⟨C', rfl, hC'⟩ := hD'.split
      refine OS.sub (Sub.sums (A := (r, .loop p1) :: (r5, .cells 3 [.int .i64 ((k + 1 : Nat) : Int)]) :: (r4, .cells 159 [ptr rd]) :: (r3, .cells 90 [.nilIface]) :: (r2, .cells tD [.slice none 0 0, .slice none 0 0]) :: (C' ++ (F ++ X))) fun f => by simp <;> omega) ?_
      refine yG ?_
      subst hp1
      exact ⟨0, _, rfl, rfl, _, (by simp <;> rfl), .inl ⟨rfl, d', C', hE, ⟨Y', hC'⟩, rfl⟩⟩
  · rintro v L' ⟨G', t, hj, rfl⟩
    rcases hj with ⟨d, C, hE, ⟨Y, hD⟩, rfl⟩ | ⟨Z, no, e, hE, rfl⟩
    · rw [List.drop_length, readL] at hE
      rw [hE]
      refine ⟨3, p0, _, rfl, rfl, by subst hp0; simp [LP.start], ?_⟩
      have hpend : p0.pending = none := by subst hp0; rfl
      rw [hpend]
      show LSr _ _ _ _ _ _
      obtain ⟨rr, rc, rs', es, ck, ec, kc, em, km, hv, sv, HY, SY, IY, fc, fm, hCF, hBF, hok, hR, hC, hM, hDM⟩ := (hD F hB).ex
      rw [hCF]
      obtain ⟨⟨A1, n1, c1, rfl⟩, A2, n2, c2, rfl⟩ := forms_of hDM
      refine yG ?_
      refine OS.write rfl (e_store 6 rfl rfl rfl rfl rfl rfl rfl rfl) rfl ?_
      refine OS.write rfl (e_store 5 rfl rfl rfl rfl rfl rfl rfl rfl) rfl ?_
      refine yG ?_
      refine LS.ret ⟨_, res_cc 6 5 rfl rfl rfl rfl rfl rfl rfl rfl, ?_⟩
      refine ⟨.agg #[.slice A1 n1 c1, .slice A2 n2 c2], (rz, iRow 0) :: (rp, sRow [10]) :: (rs, sRow t) :: (r5, .cells 3 [.int .i64 (((cuts 10 s).length : Nat) : Int)]) :: (r4, .cells 159 [ptr rd]) :: (r3, .cells 90 [.nilIface]) :: (r2, .cells tD [.slice A1 n1 c1, .slice A2 n2 c2]) :: (rd, dRow (.slice A1 n1 c1) (.slice A2 n2 c2) rr rc rs') :: (rr, .map es ck) :: (rc, .map ec kc) :: (rs', .map em km) :: (HY ++ (SY ++ (IY ++ Y))), rfl, ?_, doc_of hDM ?_ ?_ ?_ ?_⟩
      · simp <;> rfl
      · intro p hp; simp only [List.mem_cons, List.mem_append] at hp ⊢; rcases hp with hp | hp <;> simp [hp]
      · intro p hp; simp [hp]
      · intro p hp; simp [hp]
      · intro p hp; simp [hp]
    · rw [hE]
      refine ⟨3, _, _, rfl, rfl, by simp [LP.left], ?_⟩
      refine ⟨_, res_cc 6 5 rfl rfl rfl rfl rfl rfl rfl rfl, ?_⟩
      exact ⟨rfl, by repeat (first | exact Ends.nil | apply Ends.cons | apply Ends.app)⟩
end
end Go.Proofs.YtllcbjaajffaeaaGreatDoor
namespace Go.Am
theorem res_c3 (i : Nat) {P : Program} {a : Slots} {L : RL} {x y z r off : Nat} {t : TypeId} {row : ARow} {cs : List Value} {v u w : Value} (hx : a[x]? = some (.pointer (some ⟨r, off, none⟩))) (hL : L[i]? = some (r, row)) (hc : rdRow row = some cs) (hv : partB P t cs off = some v) (hy : a[y]? = some u) (hz : a[z]? = some w) : ∀ h, Has h L → resultsB P a h [.cell x t, .tmp y, .tmp z] = some [v, u, w] := by
  intro h H
  have hl : loadB P t (.pointer (some ⟨r, off, none⟩)) h = some v := by simp only [loadB, H.read hL hc, hv]
  simp only [resultsB, hx, hl, hy, hz]
theorem SV.form {sz n : Nat} {F : RL} {v : Value} {cs : List Value} (h : SV sz F v n cs) : ∃ A c, v = .slice A n c := by
  rcases h with ⟨rfl, rfl, _⟩ | ⟨r, off, cap, row, cs₀, rfl, _⟩
  · exact ⟨_, _, rfl⟩
  · exact ⟨_, _, rfl⟩
end Go.Am
namespace Go.Proofs.YtllcbjaajffaeaaGreatDoor
open Go.Am Go.Pd
set_option linter.unusedVariables false
set_option maxRecDepth 20000
set_option maxHeartbeats 4000000
attribute [local irreducible] OS LSr ODS CS YS
section
variable {F L : RL} {d : Dc} {v : Value}
theorem DocV.mono {M : RL} (h : DocV L v d) (hm : ∀ p, p ∈ L → p ∈ M) : DocV M v d := by
  obtain ⟨hv, sv, hcs, scs, h1, h2, h3, h4, h5⟩ := h
  exact ⟨hv, sv, hcs, scs, h1, h2.up hm, h3.mono hm, h4.up hm, h5.mono hm⟩
theorem Parse_ct {g : Gn} (hG : GL g F) {s : W} (hs : s.length ≤ 1000000000000) : CS Tryz.prog 11 [str s] F fun v L' => match readL chk spD 1 ⟨[], []⟩ (segs s) with
    | .error (no, e) => v = .tuple #[.agg #[.slice none 0 0, .slice none 0 0], .int .i64 (no : Nat), .int .i64 (e : Nat)] ∧ Ends F L'
    | .ok d => ∃ u Z, v = .tuple #[u, .int .i64 0, .int .i64 0] ∧ L' = Z ++ F ∧ DocV (Z ++ F) u d := by
  refine CS.mk (fn := Tryz.f11) rfl rfl rfl rfl ?_
  refine yG ?_
  refine OS.fresh rfl (e_new (fun _ => rfl) rfl) (fun _ => rfl) (fun r2 => ?_)
  show OS _ _ _ _ ((r2, ARow.cells tD [.slice none 0 0, .slice none 0 0]) :: _) _
  refine yG ?_
  refine OS.call noGo rfl (fun _ => rfl) ((dread2_ct (hG.mono fun p hp => List.mem_cons_of_mem _ hp) hG (fun p hp => List.mem_cons_of_mem _ hp) hs).mono ?_)
  cases he : readL chk spD 1 ⟨[], []⟩ (segs s) with
  | error p =>
    obtain ⟨no, e⟩ := p
    rintro v L' ⟨rfl, Z, rfl⟩
    refine ⟨_, rfl, ?_⟩
    refine OS.sub (Sub.sums (A := (r2, .cells tD [.slice none 0 0, .slice none 0 0]) :: (Z ++ F)) fun f => by simp <;> omega) ?_
    refine yG ?_
    refine OS.fresh rfl (e_new (fun _ => rfl) rfl) (fun _ => rfl) (fun r5 => ?_)
    show OS _ _ _ _ ((r5, ARow.cells tD [.slice none 0 0, .slice none 0 0]) :: _) _
    refine yG ?_
    refine OS.call noGo rfl (fun _ => rfl) ((dTold_f (hG.mono fun p hp => by simp [hp])).mono ?_)
    rintro v L' ⟨rfl, rfl⟩
    refine ⟨_, rfl, ?_⟩
    refine yG ?_
    refine LS.ret ⟨_, res_c3 1 rfl rfl rfl rfl rfl rfl, ?_⟩
    exact ⟨rfl, by repeat (first | exact Ends.nil | apply Ends.cons | apply Ends.app)⟩
  | ok d =>
    rintro v L' ⟨u, Z, rfl, rfl, hd⟩
    obtain ⟨hv, sv, hcs, scs, rfl, h2, h3, h4, h5⟩ := hd
    have hd : DocV (Z ++ F) (.agg #[hv, sv]) d := ⟨hv, sv, hcs, scs, rfl, h2, h3, h4, h5⟩
    obtain ⟨A1, c1, rfl⟩ := h2.form
    obtain ⟨A2, c2, rfl⟩ := h4.form
    refine ⟨_, rfl, ?_⟩
    refine OS.sub (Sub.sums (A := (r2, .cells tD [.slice none 0 0, .slice none 0 0]) :: (Z ++ F)) fun f => by simp <;> omega) ?_
    refine yG ?_
    refine OS.fresh rfl (e_new (fun _ => rfl) rfl) (fun _ => rfl) (fun r5 => ?_)
    show OS _ _ _ _ ((r5, ARow.cells tD [.slice none 0 0, .slice none 0 0]) :: _) _
    refine yG ?_
    refine OS.call noGo rfl (fun _ => rfl) ((dTold_nil).mono ?_)
    rintro v L' ⟨rfl, rfl⟩
    refine ⟨_, rfl, ?_⟩
    refine yG ?_
    refine LS.ret ⟨_, res_c3 1 rfl rfl rfl rfl rfl rfl, ?_⟩
    exact ⟨_, (r5, _) :: (r2, _) :: Z, rfl, rfl, hd.mono fun p hp => List.mem_cons_of_mem _ (List.mem_cons_of_mem _ hp)⟩
end
end Go.Proofs.YtllcbjaajffaeaaGreatDoor
namespace Go.Am
section
variable {P : Program} {o : Oper} {a : Slots} {L L₁ : RL}
theorem e_append_txt (i : Nat) {c : Call} {e : TypeId} {bts len n r off : Nat} {s : List UInt8} {old cs : List Value} (ho : o.op = .call c) (hT : appT P c = some (e, 1, bts)) (ha : evs a c.args.toList = some [.slice (some ⟨r, off, none⟩) len openCap, .string ⟨⟨s⟩⟩])
    (hn : n = s.length) (hsm : (len + n) * bts ≤ 140737488355328) (hsm2 : len + n ≤ 140737488355328) (hL : L[i]? = some (r, .cells e cs)) (hcut : cut cs off (len * 1) = some old) (hd : dropL L i = some L₁) :
    ∀ h, Has h L → ∃ r' h₁, opB P a o h = some (.val (.slice (some ⟨r', 0, none⟩) (len + n) openCap) h₁) ∧ Has h₁ ((r', .cells e (old ++ byteCells s)) :: L₁) :=
  e_append i ho hT ha (by rw [hn]; rfl) (first_text hn) (by rw [byteCells_one]; rfl) hsm hsm2 hL hcut hd
theorem e_append0_txt {c : Call} {e : TypeId} {bts n : Nat} {s : List UInt8} (ho : o.op = .call c) (hT : appT P c = some (e, 1, bts)) (ha : evs a c.args.toList = some [.slice none 0 0, .string ⟨⟨s⟩⟩]) (hn : n = s.length)
    (hsm : n * bts ≤ 140737488355328) (hsm2 : n ≤ 140737488355328) (hpos : 0 < n) :
    ∀ h, Has h L → ∃ r' h₁, opB P a o h = some (.val (.slice (some ⟨r', 0, none⟩) n openCap) h₁) ∧ Has h₁ ((r', .cells e (byteCells s)) :: L) :=
  e_append0 ho hT ha (by rw [hn]; rfl) (first_text hn) (by rw [byteCells_one]; rfl) hsm hsm2 hpos
end
end Go.Am
namespace Go.Proofs.YtllcbjaajffaeaaGreatDoor
open Go.Am Go.Pd
set_option linter.unusedVariables false
set_option maxRecDepth 20000
set_option maxHeartbeats 4000000
attribute [local irreducible] OS LSr ODS CS YS
abbrev pRow (p v : Value) (rd : Nat) : ARow := .cells 181 [p, v, ptr rd]
def BP (rp rd : Nat) (bs : List UInt8) (F L : RL) : Prop :=
  (bs = [] ∧ L = (rp, pRow (.pointer none) (.slice none 0 0) rd) :: F) ∨
  (bs ≠ [] ∧ ∃ r, L = (r, .cells 5 (byteCells bs)) :: (rp, pRow (ptr rp) (.slice (some ⟨r, 0, none⟩) bs.length openCap) rd) :: F)
theorem WriteP_ct {F L : RL} {rp rd : Nat} {bs : List UInt8} (t : List UInt8) (ht : t ≠ []) (hB : BP rp rd bs F L) (hn : bs.length + t.length ≤ 100000000) : CS Tryz.prog 114 [ptr rp, str t] L fun v L' => v = .tuple #[.int .i64 (t.length : Nat), .nilIface] ∧ BP rp rd (bs ++ t) F L' := by
  have htl : 0 < t.length := by cases t with
    | nil => exact absurd rfl ht
    | cons => simp
  rcases hB with ⟨rfl, rfl⟩ | ⟨h0, r, rfl⟩
  · have key : CS Tryz.prog 145 [ptr rp] ((rp, pRow (.pointer none) (.slice none 0 0) rd) :: F) fun v L' => L' = (rp, pRow (ptr rp) (.slice none 0 0) rd) :: F := by
      refine CS.mk (fn := Tryz.f145) rfl rfl rfl rfl ?_
      repeat refine LS.seq ?_
      refine LS.region rfl ?_
      refine OS.pure rfl (fun _ => rfl) rfl ?_
      refine OS.pure rfl (fun _ => rfl) rfl ?_
      refine OS.pure rfl (fun _ => rfl) rfl ?_
      refine OS.read rfl (e_load 0 rfl rfl rfl rfl rfl) rfl ?_
      refine OS.pure rfl (fun _ => rfl) rfl ?_
      refine OS.nil ?_
      repeat refine LS.seq ?_
      refine LS.cond rfl (fun hc => ?_) (fun hc => ?_)
      · repeat refine LS.seq ?_
        refine LS.region rfl ?_
        refine OS.pure rfl (fun _ => rfl) rfl ?_
        refine OS.pure rfl (fun _ => rfl) rfl ?_
        refine OS.read rfl (e_toUnsafe 0 (n := 1) rfl rfl rfl rfl rfl rfl (by simp)) rfl ?_
        refine OS.ext (noEscape_ext (ptr rp)) rfl (fun _ => rfl) rfl ?_
        refine OS.read rfl (e_fromFirst 0 (n := 1) rfl rfl rfl rfl rfl rfl (by kernel_rfl) (by kernel_rfl) (by kernel_rfl) (by kernel_rfl)) rfl ?_
        refine OS.pure rfl (fun _ => rfl) rfl ?_
        refine OS.pure rfl (fun _ => rfl) rfl ?_
        refine OS.write rfl (e_store 0 rfl rfl rfl rfl rfl rfl rfl rfl) rfl ?_
        refine OS.nil ?_
        refine ⟨_, fun _ _ => rfl, ?_⟩
        rfl
      · cases hc
    refine CS.mk (fn := Tryz.f114) rfl rfl rfl rfl ?_
    repeat refine LS.seq ?_
    refine LS.region rfl ?_
    refine OS.pure rfl (fun _ => rfl) rfl ?_
    refine OS.pure rfl (fun _ => rfl) rfl ?_
    refine OS.nil ?_
    repeat refine LS.seq ?_
    refine LS.region rfl ?_
    refine OS.pure rfl (fun _ => rfl) rfl ?_
    refine OS.call noGo rfl (fun _ => rfl) ((key).mono ?_)
    rintro v L' rfl
    refine ⟨_, rfl, ?_⟩
    refine OS.nil ?_
    repeat refine LS.seq ?_
    refine LS.region rfl ?_
    refine OS.pure rfl (fun _ => rfl) rfl ?_
    refine OS.pure rfl (fun _ => rfl) rfl ?_
    refine OS.pure rfl (fun _ => rfl) rfl ?_
    refine OS.pure rfl (fun _ => rfl) rfl ?_
    refine OS.read rfl (e_load 0 rfl rfl rfl rfl rfl) rfl ?_
    refine OS.pure rfl (fun _ => rfl) rfl ?_
    refine OS.fresh rfl (e_append0_txt (bts := 1) rfl rfl rfl rfl (by omega) (by omega) htl) (fun _ => rfl) (fun r3 => ?_)
    refine OS.pure rfl (fun _ => rfl) rfl ?_
    refine OS.pure rfl (fun _ => rfl) rfl ?_
    refine OS.write rfl (e_store 1 rfl rfl rfl rfl rfl rfl rfl rfl) rfl ?_
    refine OS.nil ?_
    repeat refine LS.seq ?_
    refine LS.region rfl ?_
    refine OS.pure rfl (fun _ => rfl) rfl ?_
    refine OS.pure rfl (fun _ => rfl) rfl ?_
    refine OS.pure rfl (fun _ => rfl) rfl ?_
    refine OS.pure rfl (fun _ => rfl) rfl ?_
    refine OS.nil ?_
    refine LS.ret ⟨_, fun _ _ => rfl, ?_⟩
    exact ⟨rfl, .inr ⟨by simpa using ht, r3, rfl⟩⟩
  · have key : CS Tryz.prog 145 [ptr rp] ((r, .cells 5 (byteCells bs)) :: (rp, pRow (ptr rp) (.slice (some ⟨r, 0, none⟩) bs.length openCap) rd) :: F) fun v L' => L' = (r, .cells 5 (byteCells bs)) :: (rp, pRow (ptr rp) (.slice (some ⟨r, 0, none⟩) bs.length openCap) rd) :: F := by
      refine CS.mk (fn := Tryz.f145) rfl rfl rfl rfl ?_
      repeat refine LS.seq ?_
      refine LS.region rfl ?_
      refine OS.pure rfl (fun _ => rfl) rfl ?_
      refine OS.pure rfl (fun _ => rfl) rfl ?_
      refine OS.pure rfl (fun _ => rfl) rfl ?_
      refine OS.read rfl (e_load 1 rfl rfl rfl rfl rfl) rfl ?_
      refine OS.pure rfl (fun _ => rfl) rfl ?_
      refine OS.nil ?_
      repeat refine LS.seq ?_
      refine LS.cond rfl (fun hc => ?_) (fun hc => ?_)
      · cases hc
      · repeat refine LS.seq ?_
        refine LS.region rfl ?_
        refine OS.pure rfl (fun _ => rfl) rfl ?_
        refine OS.pure rfl (fun _ => rfl) rfl ?_
        refine OS.pure rfl (fun _ => rfl) rfl ?_
        refine OS.read rfl (e_load 1 rfl rfl rfl rfl rfl) rfl ?_
        refine OS.pure rfl (fun _ => rfl) rfl ?_
        refine OS.pure rfl (e_nep2 rfl rfl rfl rfl rfl) rfl ?_
        refine OS.nil ?_
        repeat refine LS.seq ?_
        refine LS.cond rfl (fun hc => ?_) (fun hc => ?_)
        · cases hc
        · refine LS.skip ⟨_, fun _ _ => rfl, ?_⟩
          rfl
    refine CS.mk (fn := Tryz.f114) rfl rfl rfl rfl ?_
    repeat refine LS.seq ?_
    refine LS.region rfl ?_
    refine OS.pure rfl (fun _ => rfl) rfl ?_
    refine OS.pure rfl (fun _ => rfl) rfl ?_
    refine OS.nil ?_
    repeat refine LS.seq ?_
    refine LS.region rfl ?_
    refine OS.pure rfl (fun _ => rfl) rfl ?_
    refine OS.call noGo rfl (fun _ => rfl) ((key).mono ?_)
    rintro v L' rfl
    refine ⟨_, rfl, ?_⟩
    refine OS.nil ?_
    repeat refine LS.seq ?_
    refine LS.region rfl ?_
    refine OS.pure rfl (fun _ => rfl) rfl ?_
    refine OS.pure rfl (fun _ => rfl) rfl ?_
    refine OS.pure rfl (fun _ => rfl) rfl ?_
    refine OS.pure rfl (fun _ => rfl) rfl ?_
    refine OS.read rfl (e_load 1 rfl rfl rfl rfl rfl) rfl ?_
    refine OS.pure rfl (fun _ => rfl) rfl ?_
    refine OS.fresh rfl (e_append_txt 0 (bts := 1) (len := bs.length) rfl rfl rfl rfl (by omega) (by omega) rfl (cut_all (by rw [byteCells_len]; omega)) rfl) (fun _ => rfl) (fun r3 => ?_)
    refine OS.pure rfl (fun _ => rfl) rfl ?_
    refine OS.pure rfl (fun _ => rfl) rfl ?_
    refine OS.write rfl (e_store 1 rfl rfl rfl rfl rfl rfl rfl rfl) rfl ?_
    refine OS.nil ?_
    repeat refine LS.seq ?_
    refine LS.region rfl ?_
    refine OS.pure rfl (fun _ => rfl) rfl ?_
    refine OS.pure rfl (fun _ => rfl) rfl ?_
    refine OS.pure rfl (fun _ => rfl) rfl ?_
    refine OS.pure rfl (fun _ => rfl) rfl ?_
    refine OS.nil ?_
    refine LS.ret ⟨_, fun _ _ => rfl, ?_⟩
    refine ⟨rfl, .inr ⟨by simp [h0], r3, ?_⟩⟩
    rw [byteCells_append, List.length_append]
theorem StringP_ct {F L : RL} {rp rd : Nat} {bs : List UInt8} (hB : BP rp rd bs F L) (hn : bs.length ≤ 100000000) : CS Tryz.prog 80 [ptr rp] L fun v L' => v = str bs ∧ ∃ Z, L' = Z ++ F := by
  rcases hB with ⟨rfl, rfl⟩ | ⟨h0, r, rfl⟩
  · refine CS.mk (fn := Tryz.f80) rfl rfl rfl rfl ?_
    repeat refine LS.seq ?_
    refine LS.region rfl ?_
    refine OS.pure rfl (fun _ => rfl) rfl ?_
    refine OS.nil ?_
    repeat refine LS.seq ?_
    refine LS.drawn noGo mixed [(0, false), (1, false), (2, false), (3, false), (4, false), (5, false), (6, false), (7, false), (8, false), (9, false), (10, true), (11, false)] rfl rfl (by kernel_rfl) ?_
    refine ODS.pure rfl rfl (fun _ => rfl) rfl ?_
    refine ODS.pure rfl rfl (fun _ => rfl) rfl ?_
    refine ODS.pure rfl rfl (fun _ => rfl) rfl ?_
    refine ODS.read rfl rfl (e_load 0 rfl rfl rfl rfl rfl) rfl ?_
    refine ODS.pure rfl rfl (fun _ => rfl) rfl ?_
    refine ODS.pure rfl rfl (fun _ => rfl) rfl ?_
    refine ODS.pure rfl rfl (fun _ => rfl) rfl ?_
    refine ODS.pure rfl rfl (fun _ => rfl) rfl ?_
    refine ODS.read rfl rfl (e_load 0 rfl rfl rfl rfl rfl) rfl ?_
    refine ODS.pure rfl rfl (fun _ => rfl) rfl ?_
    refine ODS.write rfl rfl (fun h H => ⟨h, rfl, H⟩) rfl (Keep.gone rfl (Keep.gone rfl Keep.nil)) ?_
    refine ODS.pure rfl rfl (fun _ => rfl) rfl ?_
    refine ODS.nil ?_
    refine LS.ret ⟨_, fun _ _ => rfl, ?_⟩
    exact ⟨rfl, [_], rfl⟩
  · have h1 : 1 ≤ bs.length := by
      cases bs with
      | nil => exact absurd rfl h0
      | cons c bs => simp
    refine CS.mk (fn := Tryz.f80) rfl rfl rfl rfl ?_
    repeat refine LS.seq ?_
    refine LS.region rfl ?_
    refine OS.pure rfl (fun _ => rfl) rfl ?_
    refine OS.nil ?_
    repeat refine LS.seq ?_
    refine LS.drawn noGo mixed [(0, false), (1, false), (2, false), (3, false), (4, false), (5, false), (6, false), (7, false), (8, false), (9, false), (10, true), (11, false)] rfl rfl (by kernel_rfl) ?_
    refine ODS.pure rfl rfl (fun _ => rfl) rfl ?_
    refine ODS.pure rfl rfl (fun _ => rfl) rfl ?_
    refine ODS.pure rfl rfl (fun _ => rfl) rfl ?_
    refine ODS.read rfl rfl (e_load 1 rfl rfl rfl rfl rfl) rfl ?_
    refine ODS.pure rfl rfl (e_data rfl rfl rfl h1) rfl ?_
    refine ODS.pure rfl rfl (fun _ => rfl) rfl ?_
    refine ODS.pure rfl rfl (fun _ => rfl) rfl ?_
    refine ODS.pure rfl rfl (fun _ => rfl) rfl ?_
    refine ODS.read rfl rfl (e_load 1 rfl rfl rfl rfl rfl) rfl ?_
    refine ODS.pure rfl rfl (fun _ => rfl) rfl ?_
    refine ODS.write rfl rfl (e_unsafe 0 (n := bs.length) rfl rfl rfl rfl rfl rfl rfl rfl rfl h1 (by omega) rfl) rfl (Keep.gone rfl (Keep.gone rfl Keep.nil)) ?_
    refine ODS.pure rfl rfl (fun _ => rfl) rfl ?_
    refine ODS.nil ?_
    refine LS.ret ⟨_, fun _ _ => rfl, ?_⟩
    exact ⟨rfl, [_], rfl⟩
end Go.Proofs.YtllcbjaajffaeaaGreatDoor
