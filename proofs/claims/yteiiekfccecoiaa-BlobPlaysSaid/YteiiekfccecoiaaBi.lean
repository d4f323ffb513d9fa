/- Layer 8: a builder of bytes. -/
import Derived.Test.YteiiekfccecoiaaBh
import Derived.Laws.Externs
namespace Go.Am
section
variable {P : Program} {o : Oper} {a : Slots} {L L₁ : RL} {x y : Operand} {t : TypeId}
/-- Two pointers to one place differ not. -/
theorem e_nep2 {el z : TypeId} {r n : Nat} (ho : o.op = .binOp .neq t x y z) (hx : aev a x = some (.pointer (some ⟨r, 0, none⟩))) (hy : aev a y = some (.pointer (some ⟨r, 0, none⟩))) (ht : P.underlying t = some (.pointer el)) (hz : sizeB P el = some n) :
    ∀ h, opB P a o h = some (.val (.bool false) h) := by
  intro h
  have hr : (Nat.beq r r && Nat.beq 0 0) = true := by simp
  have e : eqB P 100 t (.pointer (some ⟨r, 0, none⟩)) (.pointer (some ⟨r, 0, none⟩)) = some true := by
    unfold eqB
    simp only [ht, hz, hr]
  simp only [opB, ho, hx, hy, eqOk, binB, e, ret, if_true]
  rfl
/-- Nothing is appended to nothing. -/
theorem e_appNil {c : Call} {e : TypeId} {sz bts : Nat} {x v : Value} {new : List Value} {L : RL} (hv : v = .slice none 0 0) (hs : SV sz L x 0 new) (ho : o.op = .call c) (hT : appT P c = some (e, sz, bts)) (ha : evs a c.args.toList = some [v, x]) :
    ∀ h, Has h L → opB P a o h = some (.val v h) := by
  intro h H
  subst hv
  have hnew : new = [] := by have := hs.len; simpa using this
  subst hnew
  have hn := hs.lenB
  have hf := hs.first H
  have hone' : (allOne ([] : List Value) && (notText x || Nat.beq sz 1)) = true := by rw [hs.notText]; rfl
  unfold appT at hT
  split at hT
  case h_2 => cases hT
  rename_i hcal
  split at hT
  case h_2 => cases hT
  rename_i st xt hst hxt
  split at hT
  case h_2 => cases hT
  rename_i e' xd hu1 hu2
  have hxd : (∀ k, xd = .int k → False) ∧ ∃ i, P.info? e' = some i ∧ i.size = sz := by
    split at hT
    · cases hT
    · rename_i hno
      split at hT
      case h_2 => cases hT
      rename_i i hi hz
      simp at hT
      obtain ⟨rfl, rfl, rfl⟩ := hT
      exact ⟨fun k hk => hno k hk, i, hi, rfl⟩
  obtain ⟨hno, i, hi, rfl⟩ := hxd
  have b1 : Nat.beq 0 openCap = false := beq_false (by decide)
  have b2 : Nat.ble (0 + 0) 0 = true := rfl
  simp only [opB, ho, ha, callOpB, hcal, appendB, hst, hxt, hu1, hu2]
  cases xd <;> first | exact (hno _ rfl).elim | skip
  all_goals simp only [hi, hn, hf, hone', b1, b2, beq_true rfl, ret2]
end
end Go.Am
namespace Go.Proofs.Yteiiekfccecoiaa
open Go.Am
set_option linter.unusedVariables false
set_option maxRecDepth 20000

theorem noEscape_ext (v : Value) : Ext Try.prog 89 [v] v := by
  refine ⟨_, Extern.AbiNoEscape.same, rfl, by kernel_rfl, by kernel_rfl, by kernel_rfl, by kernel_rfl, fun ρ us w h => ?_⟩
  cases h with
  | cons h1 h2 =>
    cases h2
    exact ⟨_, rfl, h1⟩
abbrev bu (p v : Value) : ARow := .cells 116 [p, v]
/-- A builder that holds these bytes, ahead of others. -/
def BD (b : Nat) (bs : List UInt8) (F L : RL) : Prop :=
  ∃ p v Y, (p = .pointer none ∧ bs = [] ∨ p = ptr b) ∧ GV 5 1 [] v bs.length (byteCells bs) Y ∧ (bs = [] → v = .slice none 0 0) ∧ L = Y ++ ((b, bu p v) :: F)
theorem copyCheck_ct {b : Nat} {p v : Value} {F : RL} (hp : p = .pointer none ∨ p = ptr b) : CS Try.prog 85 [ptr b] ((b, bu p v) :: F) fun w L' => L' = (b, bu (ptr b) v) :: F := by
  rcases hp with rfl | rfl
  · refine CS.mk (fn := Try.f85) rfl rfl rfl rfl ?_
    repeat refine LS.seq ?_
    refine LS.region rfl ?_
    refine OS.pure rfl (fun _ => rfl) rfl ?_
    refine OS.pure rfl (fun _ => rfl) rfl ?_
    refine OS.pure rfl (fun _ => rfl) rfl ?_
    refine OS.read rfl (e_load 0 rfl rfl rfl rfl rfl) rfl ?_
    refine OS.pure rfl (fun _ => rfl) rfl ?_
    refine OS.nil ?_
    repeat refine LS.seq ?_
    refine LS.cond rfl (fun hc => ?_) (fun hc => ?_)
    · repeat refine LS.seq ?_
      refine LS.region rfl ?_
      refine OS.pure rfl (fun _ => rfl) rfl ?_
      refine OS.pure rfl (fun _ => rfl) rfl ?_
      refine OS.read rfl (e_toUnsafe 0 (n := 1) rfl rfl rfl rfl rfl rfl (by simp)) rfl ?_
      refine OS.ext (noEscape_ext (ptr b)) rfl (fun _ => rfl) rfl ?_
      refine OS.read rfl (e_fromUnsafe 0 (n := 1) rfl rfl rfl rfl rfl rfl (by kernel_rfl) (by simp)) rfl ?_
      refine OS.pure rfl (fun _ => rfl) rfl ?_
      refine OS.pure rfl (fun _ => rfl) rfl ?_
      refine OS.write rfl (e_store 0 rfl rfl rfl rfl rfl rfl rfl rfl) rfl ?_
      refine OS.nil ?_
      refine ⟨_, fun _ _ => rfl, ?_⟩
      rfl
    · cases hc
  · refine CS.mk (fn := Try.f85) rfl rfl rfl rfl ?_
    repeat refine LS.seq ?_
    refine LS.region rfl ?_
    refine OS.pure rfl (fun _ => rfl) rfl ?_
    refine OS.pure rfl (fun _ => rfl) rfl ?_
    refine OS.pure rfl (fun _ => rfl) rfl ?_
    refine OS.read rfl (e_load 0 rfl rfl rfl rfl rfl) rfl ?_
    refine OS.pure rfl (fun _ => rfl) rfl ?_
    refine OS.nil ?_
    repeat refine LS.seq ?_
    refine LS.cond rfl (fun hc => ?_) (fun hc => ?_)
    · cases hc
    · repeat refine LS.seq ?_
      refine LS.region rfl ?_
      refine OS.pure rfl (fun _ => rfl) rfl ?_
      refine OS.pure rfl (fun _ => rfl) rfl ?_
      refine OS.pure rfl (fun _ => rfl) rfl ?_
      refine OS.read rfl (e_load 0 rfl rfl rfl rfl rfl) rfl ?_
      refine OS.pure rfl (fun _ => rfl) rfl ?_
      refine OS.pure rfl (e_nep2 rfl rfl rfl rfl rfl) rfl ?_
      refine OS.nil ?_
      repeat refine LS.seq ?_
      refine LS.cond rfl (fun hc => ?_) (fun hc => ?_)
      · cases hc
      · refine LS.skip ⟨_, fun _ _ => rfl, ?_⟩
        rfl
theorem BWrite_ct {F L : RL} {b m : Nat} {bs new : List UInt8} {x : Value} (hB : BD b bs F L) (hx : SV 1 F x m (byteCells new)) (hn : bs.length + m ≤ 100000000) : CS Try.prog 73 [ptr b, x] L fun v L' => BD b (bs ++ new) F L' := by
  obtain ⟨p, v, Y, hp, hg, hv0, rfl⟩ := hB
  have hml : new.length = m := by have := hx.len; rw [byteCells_len] at this; omega
  refine CS.sub (Sub.sums (A := (b, bu p v) :: (Y ++ F)) fun f => by simp <;> omega) ?_
  refine CS.mk (fn := Try.f73) rfl rfl rfl rfl ?_
  repeat refine LS.seq ?_
  refine LS.region rfl ?_
  refine OS.pure rfl (fun _ => rfl) rfl ?_
  refine OS.pure rfl (fun _ => rfl) rfl ?_
  refine OS.nil ?_
  repeat refine LS.seq ?_
  refine LS.region rfl ?_
  refine OS.pure rfl (fun _ => rfl) rfl ?_
  refine OS.call noGo rfl (fun _ => rfl) ((copyCheck_ct (hp.imp And.left id)).mono ?_)
  rintro w L' rfl
  refine ⟨_, rfl, ?_⟩
  refine OS.nil ?_
  repeat refine LS.seq ?_
  refine LS.region rfl ?_
  refine OS.pure rfl (fun _ => rfl) rfl ?_
  refine OS.pure rfl (fun _ => rfl) rfl ?_
  refine OS.pure rfl (fun _ => rfl) rfl ?_
  refine OS.pure rfl (fun _ => rfl) rfl ?_
  refine OS.read rfl (e_load 0 rfl rfl rfl rfl rfl) rfl ?_
  refine OS.pure rfl (fun _ => rfl) rfl ?_
  by_cases hempty : bs ++ new = []
  · obtain ⟨rfl, rfl⟩ := List.append_eq_nil_iff.1 hempty
    have hv := hv0 rfl
    subst hv
    have hY : Y = [] := by rcases hg with ⟨_, _, _, h⟩ | ⟨r, h, _⟩; exact h; cases h
    subst hY
    have hm0 : m = 0 := by simpa using hml.symm
    subst hm0
    refine OS.read rfl (e_appNil (e := 5) (sz := 1) (bts := 1) rfl (hx.mono (fun p hp => by simp [hp])) rfl rfl rfl) rfl ?_
    refine OS.pure rfl (fun _ => rfl) rfl ?_
    refine OS.pure rfl (fun _ => rfl) rfl ?_
    refine OS.write rfl (e_store 0 rfl rfl rfl rfl rfl rfl rfl rfl) rfl ?_
    refine OS.nil ?_
    repeat refine LS.seq ?_
    refine LS.region rfl ?_
    refine OS.pure rfl (fun _ => rfl) rfl ?_
    refine OS.pure rfl (e_len (L := F) hx rfl rfl rfl rfl rfl) rfl ?_
    refine OS.pure rfl (fun _ => rfl) rfl ?_
    refine OS.pure rfl (fun _ => rfl) rfl ?_
    refine OS.nil ?_
    refine LS.ret ⟨_, fun _ _ => rfl, ?_⟩
    exact ⟨ptr b, _, [], .inr rfl, hg, fun _ => rfl, rfl⟩
  refine OS.turns rfl (e_appendGA [(b, _)] F (e := 5) (sz := 1) (bts := 1) (m := m) hg (hx.mono (fun p hp => by simp [hp])) (byteCells_one _) rfl rfl rfl (by omega) (by omega)) (fun u2 L₁ hR => ?_)
  obtain ⟨Y', hg', rfl⟩ := hR
  rw [← byteCells_append] at hg'
  have hg2 : GV 5 1 [] u2 (bs ++ new).length (byteCells (bs ++ new)) Y' := by rw [List.length_append, hml]; exact hg'
  refine ⟨_, rfl, ?_⟩
  refine OS.sub (Sub.sums (A := (b, bu (ptr b) v) :: (Y' ++ F)) fun f => by simp <;> omega) ?_
  refine OS.pure rfl (fun _ => rfl) rfl ?_
  refine OS.pure rfl (fun _ => rfl) rfl ?_
  refine OS.write rfl (e_store 0 (n := 1) (cs' := [ptr b, u2]) rfl rfl rfl rfl rfl (by rcases hg' with ⟨rfl, _⟩ | ⟨r, rfl, _⟩ <;> rfl) (by rcases hg' with ⟨rfl, _⟩ | ⟨r, rfl, _⟩ <;> rfl) rfl) rfl ?_
  refine OS.nil ?_
  repeat refine LS.seq ?_
  refine LS.region rfl ?_
  refine OS.pure rfl (fun _ => rfl) rfl ?_
  refine OS.pure rfl (e_len (L := F) hx rfl rfl rfl rfl rfl) rfl ?_
  refine OS.pure rfl (fun _ => rfl) rfl ?_
  refine OS.pure rfl (fun _ => rfl) rfl ?_
  refine OS.nil ?_
  refine LS.sub (Sub.sums (A := Y' ++ ((b, bu (ptr b) u2) :: F)) fun f => by simp [bu] <;> omega) ?_
  refine LS.ret ⟨_, fun _ _ => rfl, ?_⟩
  exact ⟨ptr b, u2, Y', .inr rfl, hg2, fun h => absurd h hempty, rfl⟩
theorem BLen_ct {F L : RL} {b : Nat} {bs : List UInt8} (hB : BD b bs F L) : CS Try.prog 74 [ptr b] L fun v L' => v = .int .i64 (bs.length : Nat) ∧ BD b bs F L' := by
  obtain ⟨p, v, Y, hp, hg, hv0, rfl⟩ := hB
  refine CS.sub (Sub.sums (A := (b, bu p v) :: (Y ++ F)) fun f => by simp <;> omega) ?_
  refine CS.mk (fn := Try.f74) rfl rfl rfl rfl ?_
  repeat refine LS.seq ?_
  refine LS.region rfl ?_
  refine OS.pure rfl (fun _ => rfl) rfl ?_
  refine OS.nil ?_
  repeat refine LS.seq ?_
  refine LS.region rfl ?_
  refine OS.pure rfl (fun _ => rfl) rfl ?_
  refine OS.pure rfl (fun _ => rfl) rfl ?_
  refine OS.pure rfl (fun _ => rfl) rfl ?_
  refine OS.read rfl (e_load 0 rfl rfl rfl rfl rfl) rfl ?_
  refine OS.pure rfl (e_len (L := Y) hg.sv rfl rfl rfl rfl rfl) rfl ?_
  refine OS.pure rfl (fun _ => rfl) rfl ?_
  refine OS.nil ?_
  refine LS.sub (Sub.sums (A := Y ++ ((b, bu p v) :: F)) fun f => by simp <;> omega) ?_
  refine LS.ret ⟨_, fun _ _ => rfl, ?_⟩
  exact ⟨rfl, p, v, Y, hp, hg, hv0, rfl⟩
theorem BString_ct {F L : RL} {b : Nat} {bs : List UInt8} (hB : BD b bs F L) (hn : bs.length ≤ 100000000) : CS Try.prog 75 [ptr b] L fun v L' => v = txt bs ∧ L' = F := by
  obtain ⟨p, v, Y, hp, hg, hv0, rfl⟩ := hB
  rcases hg with ⟨rfl, h0, h1, rfl⟩ | ⟨r, rfl, hl, rfl⟩
  · have hbs : bs = [] := List.eq_nil_of_length_eq_zero h0
    subst hbs
    suffices h : CS Try.prog 75 [ptr b] ((b, bu p (.slice none 0 0)) :: F) fun v L' => v = txt [] ∧ ∃ x, L' = x :: F by
      exact h.less fun v L' ⟨h1, x, h2⟩ => ⟨F, by rw [h2]; exact Sub.tail, h1, rfl⟩
    refine CS.mk (fn := Try.f75) rfl rfl rfl rfl ?_
    repeat refine LS.seq ?_
    refine LS.region rfl ?_
    refine OS.pure rfl (fun _ => rfl) rfl ?_
    refine OS.nil ?_
    repeat refine LS.seq ?_
    refine LS.drawn noGo mixed [(0, false), (1, false), (2, false), (3, false), (4, false), (5, false), (6, false), (7, false), (8, false), (9, false), (10, true), (11, false)] rfl rfl (by kernel_rfl) ?_
    refine ODS.pure rfl rfl (fun _ => rfl) rfl ?_
    refine ODS.pure rfl rfl (fun _ => rfl) rfl ?_
    refine ODS.pure rfl rfl (fun _ => rfl) rfl ?_
    refine ODS.read rfl rfl (e_load 0 rfl rfl rfl rfl rfl) rfl ?_
    refine ODS.pure rfl rfl (fun _ => rfl) rfl ?_
    refine ODS.pure rfl rfl (fun _ => rfl) rfl ?_
    refine ODS.pure rfl rfl (fun _ => rfl) rfl ?_
    refine ODS.pure rfl rfl (fun _ => rfl) rfl ?_
    refine ODS.read rfl rfl (e_load 0 rfl rfl rfl rfl rfl) rfl ?_
    refine ODS.pure rfl rfl (fun _ => rfl) rfl ?_
    refine ODS.write rfl rfl (fun h H => ⟨h, rfl, H⟩) rfl (Keep.gone rfl (Keep.gone rfl Keep.nil)) ?_
    refine ODS.pure rfl rfl (fun _ => rfl) rfl ?_
    refine ODS.nil ?_
    refine LS.ret ⟨_, fun _ _ => rfl, ?_⟩
    exact ⟨rfl, _, rfl⟩
  · suffices h : CS Try.prog 75 [ptr b] ((r, .cells 5 (byteCells bs)) :: (b, bu p (.slice (some ⟨r, 0, none⟩) bs.length openCap)) :: F) fun v L' => v = txt bs ∧ ∃ x, L' = x :: F by
      exact h.less fun v L' ⟨h1, x, h2⟩ => ⟨F, by rw [h2]; exact Sub.tail, h1, rfl⟩
    rcases Nat.eq_zero_or_pos bs.length with h0 | h1
    · have hbs : bs = [] := List.eq_nil_of_length_eq_zero h0
      have := hv0 hbs
      cases this
    · refine CS.mk (fn := Try.f75) rfl rfl rfl rfl ?_
      repeat refine LS.seq ?_
      refine LS.region rfl ?_
      refine OS.pure rfl (fun _ => rfl) rfl ?_
      refine OS.nil ?_
      repeat refine LS.seq ?_
      refine LS.drawn noGo mixed [(0, false), (1, false), (2, false), (3, false), (4, false), (5, false), (6, false), (7, false), (8, false), (9, false), (10, true), (11, false)] rfl rfl (by kernel_rfl) ?_
      refine ODS.pure rfl rfl (fun _ => rfl) rfl ?_
      refine ODS.pure rfl rfl (fun _ => rfl) rfl ?_
      refine ODS.pure rfl rfl (fun _ => rfl) rfl ?_
      refine ODS.read rfl rfl (e_load 1 rfl rfl rfl rfl rfl) rfl ?_
      refine ODS.pure rfl rfl (e_data rfl rfl rfl h1) rfl ?_
      refine ODS.pure rfl rfl (fun _ => rfl) rfl ?_
      refine ODS.pure rfl rfl (fun _ => rfl) rfl ?_
      refine ODS.pure rfl rfl (fun _ => rfl) rfl ?_
      refine ODS.read rfl rfl (e_load 1 rfl rfl rfl rfl rfl) rfl ?_
      refine ODS.pure rfl rfl (fun _ => rfl) rfl ?_
      refine ODS.write rfl rfl (e_unsafe 0 (n := bs.length) rfl rfl rfl rfl rfl rfl rfl rfl rfl h1 (by omega) rfl) rfl (Keep.gone rfl (Keep.gone rfl Keep.nil)) ?_
      refine ODS.pure rfl rfl (fun _ => rfl) rfl ?_
      refine ODS.nil ?_
      refine LS.ret ⟨_, fun _ _ => rfl, ?_⟩
      exact ⟨rfl, _, rfl⟩
end Go.Proofs.Yteiiekfccecoiaa
