/- What the machine lacked: labels and scopes, a text copied into a row, boxes, the least, the greatest. -/
import Derived.Test.YteiiekfccecoiaaAmZ
import Derived.Test.YteiiekfccecoiaaPure
import Derived.Scope
namespace Go.Am
section
variable {P : Program} {b : Frame} {a : Act} {k : List Item} {cs : List Frame} {w : World}
theorem stepR_scope {c : Code} : step P (lone (b.atR a (.code (.scope c) :: k)) cs w) = .next (lone (b.atR a (.code c :: .inScope c :: k)) cs w) :=
  step_lone_go (by simp [stepG, stepG.exec, Frame.atR])
theorem stepR_inScope {c : Code} : step P (lone (b.atR a (.inScope c :: k)) cs w) = .next (lone (b.atR a k) cs w) :=
  step_lone_go (by simp [stepG, stepG.exec, Frame.atR])
theorem wpIn_scope {F : Fence} {n : Nat} {c : Code} {Q : Exit → Act → World → Prop} (h : c.wpIn F n P (Exit.noGoto Q) a w) : (Code.scope c).wpIn F n P Q a w := by
  intro b k cs hro hb hr
  have h0 : (lone (b.atR a (.code (.scope c) :: k)) cs w).fenced P F := fenced_calm hb hr rfl
  obtain ⟨e, a₁, w₁, hq, harr⟩ := h b (.inScope c :: k) cs hro hb hr
  cases e with
  | normal => exact ⟨.normal, a₁, w₁, hq, .head h0 stepR_scope (StepsIn.trans harr (.one (fenced_calm hb hr rfl) stepR_inScope))⟩
  | exit id =>
    have hx : exitTo id (.inScope c :: k) = exitTo id k := by simp [exitTo]
    exact ⟨.exit id, a₁, w₁, hq, fun k' hk => .head h0 stepR_scope (harr.1 k' (by rw [hx]; exact hk)),
      fun hr' hk => let ⟨k₁, h1, h2⟩ := harr.2 hr' (by rw [hx]; exact hk); ⟨k₁, h1, .head h0 stepR_scope h2⟩⟩
  | goto l => exact hq.elim
  | ret => exact ⟨_, a₁, w₁, hq, .of_steps (.one h0 stepR_scope) harr⟩
  | panic ch => exact ⟨_, a₁, w₁, hq, .of_steps (.one h0 stepR_scope) harr⟩
  | outgrown => exact ⟨_, a₁, w₁, hq, .of_steps (.one h0 stepR_scope) harr⟩
end
section
variable {P : Program} {rd : Option Nat} {x : Code}
set_option linter.unusedVariables false in
theorem LQ.label {l : Nat} {a : Slots} {h : AW} {R : AExit → Slots → AW → Prop} (k : R .normal a h) : LQ rd P (.label l) a h R := fun _ _ _ _ _ _ _ hr hd H hQ => wpIn_label (hQ .normal _ _ _ _ _ k hr hd H (Turn.refl _ _ _))
theorem LQ.scope {a : Slots} {h : AW} {R : AExit → Slots → AW → Prop} (k : LQ rd P x a h R) : LQ rd P (.scope x) a h R := fun n₀ ro _ _ _ Q hrd hr hd H hQ => wpIn_scope (k n₀ ro _ _ _ _ hrd hr hd H fun e a₁ h₁ ρ₁ act₁ w₁ kk hr₁ hd₁ H₁ T₁ => by
  have := hQ e a₁ h₁ ρ₁ act₁ w₁ kk hr₁ hd₁ H₁ T₁
  cases e <;> exact this)
theorem LS.label {l : Nat} {a : Slots} {L : RL} {R : AExit → Slots → RL → Prop} (k : R .normal a L) : LSr rd P (.label l) a L R := fun h H => LQ.label ⟨L, k, H⟩
theorem LS.scope {a : Slots} {L : RL} {R : AExit → Slots → RL → Prop} (k : LSr rd P x a L R) : LSr rd P (.scope x) a L R := fun h H => LQ.scope (k h H)
end
section
variable {P : Program} {o : Oper} {a : Slots} {L L₁ : RL} {x y : Operand} {t z : TypeId}
theorem SV.one {sz n : Nat} {v : Value} {cs : List Value} (h : SV sz L v n cs) : isJ v = false ∧ v.cells.toList = [v] := by
  rcases h with ⟨rfl, rfl, rfl⟩ | ⟨r, off, cap, row, cs₀, rfl, _⟩ <;> exact ⟨rfl, rfl⟩
theorem e_box {v : Value} (ho : o.op = .box t x) (hx : aev a x = some v) (hj : isJ v = false ∧ v.cells.toList = [v]) (hs : (sizeB P t).isSome = true) : ∀ h, Has h L → ∃ r h₁, opB P a o h = some (.val (ptrTo r) h₁) ∧ Has h₁ ((r, .cells t [v]) :: L) :=
  e_new (fun _ => by simp only [opB, ho, hx, hj.1, hj.2]) hs
theorem e_max {c : Call} {k : IntKind} {x y : Int} (ho : o.op = .call c) (hc : c.callee = .builtin .max) (ha : evs a c.args.toList = some [.int k x, .int k y]) : ∀ h, opB P a o h = some (.val (.int k (max x y)) h) := by
  intro h
  by_cases hxy : y ≤ x
  · have : ileB y x = true := ileB_iff.2 hxy
    simp only [opB, ho, ha, callOpB, hc, minB, if_true, this, ret]
    rw [show max x y = x by omega]
  · have : ileB y x = false := by rw [ileB_eq]; simpa using hxy
    simp only [opB, ho, ha, callOpB, hc, minB, if_true, this, ret]
    rw [show max x y = y by omega]
theorem e_min {c : Call} {k : IntKind} {x y : Int} (ho : o.op = .call c) (hc : c.callee = .builtin .min) (ha : evs a c.args.toList = some [.int k x, .int k y]) : ∀ h, opB P a o h = some (.val (.int k (min x y)) h) := by
  intro h
  by_cases hxy : x ≤ y
  · have : ileB x y = true := ileB_iff.2 hxy
    simp only [opB, ho, ha, callOpB, hc, minB, if_true, this, ret]
    rw [show min x y = x by omega]
  · have : ileB x y = false := by rw [ileB_eq]; simpa using hxy
    simp only [opB, ho, ha, callOpB, hc, minB, if_true, this, ret]
    rw [show min x y = y by omega]
theorem e_shl {k k' : IntKind} {m s : Nat} (ho : o.op = .binOp .shl t x y z) (hx : aev a x = some (.int k (m : Int))) (hy : aev a y = some (.int k' (s : Int))) (hs : s ≤ k.bits) (hi : inK k ((m * 2 ^ s : Nat) : Int) = true) : ∀ h, opB P a o h = some (.val (.int k ((m * 2 ^ s : Nat) : Int)) h) := by
  intro h
  have h0 : ileB 0 (s : Int) = true := ileB_iff.2 (by omega)
  have h1 : (m : Int) * ((2 ^ (min s k.bits) : Nat) : Int) = ((m * 2 ^ s : Nat) : Int) := by rw [Nat.min_eq_left hs]; simp
  simp only [opB, ho, hx, hy, eqOk, binB, h0, Int.toNat_natCast, h1, wrap_in hi, ret]
theorem e_or {m n : Nat} (ho : o.op = .binOp .or t x y z) (hx : aev a x = some (.int .u64 (m : Int))) (hy : aev a y = some (.int .u64 (n : Int))) (hm : m < 18446744073709551616) (hn : n < 18446744073709551616) : ∀ h, opB P a o h = some (.val (.int .u64 ((m ||| n : Nat) : Int)) h) := by
  intro h
  have hb : ∀ m : Nat, m < 18446744073709551616 → bitsB .u64 (m : Int) = m := fun m hm => by
    unfold bitsB
    have : (ileB 0 (m : Int) && ileB (m : Int) (mostB .u64)) = true := by
      rw [Bool.and_eq_true, ileB_iff, ileB_iff]; exact ⟨by omega, by simp [mostB]; omega⟩
    rw [this]; simp
  have hor : m ||| n < 18446744073709551616 := Nat.or_lt_two_pow (n := 64) hm hn
  have hi : inK .u64 ((m ||| n : Nat) : Int) = true := in_u64 (by omega) (by omega)
  simp only [opB, ho, hx, hy, eqOk, binB, if_true, hb m hm, hb n hn, wrap_in hi, ret]
/-- A text is copied into the middle of a row. -/
theorem e_copyT (i : Nat) {c : Call} {st e e' : TypeId} {N r off cap : Nat} {D s : List UInt8} (hN : s.length ≤ N) (hfit : off + s.length ≤ D.length) (ho : o.op = .call c) (hc : c.callee = .builtin .copy) (ha : evs a c.args.toList = some [.slice (some ⟨r, off, none⟩) N cap, .string ⟨⟨s⟩⟩])
    (ht : c.argTypes[0]? = some st) (hu : P.underlying st = some (.slice e)) (hz : sizeB P e = some 1) (hL : L[i]? = some (r, .cells e' (byteCells D))) (hset : setL L i (r, .cells e' (byteCells (D.take off ++ (s ++ D.drop (off + s.length))))) = some L₁) : ∀ h, Has h L → ∃ h₁, opB P a o h = some (.val (.int .i64 (s.length : Nat)) h₁) ∧ Has h₁ L₁ := by
  intro h H
  have hmin : Nat.min s.length N = s.length := Nat.min_eq_left hN
  have hlen : lenB (.string ⟨⟨s⟩⟩) = some s.length := rfl
  have hf : firstB 1 s.length (.string ⟨⟨s⟩⟩) h = some (byteCells s) := first_text rfl h H
  have := setL_eq hset
  subst this
  rcases Nat.eq_zero_or_pos s.length with h0 | h0
  · have hs : s = [] := List.eq_nil_of_length_eq_zero h0
    subst hs
    refine ⟨h, ?_, ?_⟩
    · simp only [opB, ho, ha, callOpB, hc, copyB, ht, hu, hz, hlen, hmin, hf, byteCells_one, notText, Nat.beq_refl, Bool.or_true, Bool.and_self, ret2, goInt]
      rfl
    · have e : D.take off ++ ([] ++ D.drop (off + ([] : List UInt8).length)) = D := by simp
      rw [e]; obtain ⟨hlt, heq⟩ := List.getElem?_eq_some_iff.1 hL; rw [← heq, List.set_getElem_self]; exact H
  · obtain ⟨h₁, e₁⟩ := h.put_some r (some (.cells e' (byteCells (D.take off ++ (s ++ D.drop (off + s.length))))))
    have hb : Nat.beq s.length 0 = false := by cases s with | nil => simp at h0 | cons c s => rfl
    have hlay : lay (byteCells D) off (byteCells s) = some (byteCells (D.take off ++ (s ++ D.drop (off + s.length)))) := by
      rw [lay_of (by rw [byteCells_len, byteCells_len]; exact hfit), byteCells_len]
      simp [byteCells, List.map_take, List.map_drop]
    refine ⟨h₁, ?_, H.put hL e₁⟩
    simp only [opB, ho, ha, callOpB, hc, copyB, ht, hu, hz, hlen, hmin, hf, byteCells_one, notText, Nat.beq_refl, Bool.or_true, Bool.and_self, hb, H.row hL, hlay, e₁, ret2, goInt]
end
end Go.Am
