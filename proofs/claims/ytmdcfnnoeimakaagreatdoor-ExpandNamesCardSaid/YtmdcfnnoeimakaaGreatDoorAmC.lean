/- The abstract machine: operators, conversions, append. -/
import Derived.Test.YtmdcfnnoeimakaaGreatDoorAmB
import Derived.Laws.StructEq

/- The abstract machine: operators, conversions. -/
namespace Go.Am
set_option linter.unusedVariables false
section
variable {P : Program} {ρ : Env} {h h' : AW} {w : World}

theorem bytesEq_eq : ∀ (x y : List UInt8), bytesEq x y = (x == y)
  | [], [] => rfl
  | [], _ :: _ => rfl
  | _ :: _, [] => rfl
  | a :: x, b :: y => by
    simp only [bytesEq]
    split
    · rename_i hb
      have : a = b := UInt8.toNat_inj.1 (of_beq hb)
      subst this
      rw [bytesEq_eq x y]
      simp
    · rename_i hb
      have : a ≠ b := fun h => of_beq_f hb (by rw [h])
      simp [this]
theorem bytesLt_eq : ∀ (x y : List UInt8), bytesLt x y = Op.bytesLess x y
  | [], [] => rfl
  | _ :: _, [] => rfl
  | [], _ :: _ => rfl
  | a :: x, b :: y => by
    simp only [bytesLt, Op.bytesLess]
    split
    · rename_i hb
      have : a = b := UInt8.toNat_inj.1 (of_beq hb)
      subst this
      rw [bytesLt_eq x y]
      simp [UInt8.lt_irrefl]
    · rename_i hb
      have hne : a ≠ b := fun h => of_beq_f hb (by rw [h])
      have h1 : (a == b) = false := by simp [hne]
      rw [h1]
      simp only [Bool.false_and, Bool.or_false]
      cases e : Nat.ble (a.toNat + 1) b.toNat with
      | true => have := of_ble e; simp [UInt8.lt_iff_toNat_lt]; omega
      | false => have := of_ble_f e; simp [UInt8.le_iff_toNat_le]; omega

theorem bitsB_eq (k : IntKind) (n : Int) : bitsB k n = (BitVec.ofInt k.bits n).toNat := by
  unfold bitsB
  split
  · rename_i h
    simp only [Bool.and_eq_true, ileB_iff] at h
    obtain ⟨h1, h2⟩ := h
    rw [BitVec.toNat_ofInt]
    congr 1
    have : n < ((2 ^ k.bits : Nat) : Int) := by cases k <;> simp [mostB, IntKind.bits] at h2 ⊢ <;> omega
    rw [Int.emod_eq_of_lt h1 this]
  · rfl

theorem run_eqGuard_am {op : BinOp} {t : TypeId} {x y : Operand} {a b a' b' : Value} (e : eqOk P op t x y a b = true) (ha : VRel ρ a a') (hb : VRel ρ b b') : (eqGuard op t x y a' b').run P w = .ok () w := by
  by_cases hop : op = .eql ∨ op = .neq
  · cases ha with
    | nilIface =>
      cases hb with
      | nilIface =>
        have : (∃ c, x = .const c) ∨ ∃ c, y = .const c := by
          cases x with
          | const c => exact .inl ⟨c, rfl⟩
          | _ =>
            cases y with
            | const c => exact .inr ⟨c, rfl⟩
            | _ => rcases hop with rfl | rfl <;> simp [eqOk] at e
        rcases this with ⟨c, rfl⟩ | ⟨c, rfl⟩
        · rw [eqGuard_nil_constL]; rfl
        · rw [eqGuard_nil_constR]; rfl
      | any u => rcases hop with rfl | rfl <;> simp [eqOk] at e
      | _ => rcases hop with rfl | rfl <;> rfl
    | any u => rcases hop with rfl | rfl <;> simp [eqOk] at e
    | agg hr =>
      cases hb with
      | agg hr' =>
        have : P.eqGuardType P.depth t = false := by rcases hop with rfl | rfl <;> simpa [eqOk] using e
        exact run_eqGuard_agg w op t x y _ _ this
      | any u => rcases hop with rfl | rfl <;> simp [eqOk] at e
      | _ => rcases hop with rfl | rfl <;> rfl
    | _ => cases hb <;> (rcases hop with rfl | rfl <;> first | rfl | (simp [eqOk] at e; done))
  · cases op <;> first | rfl | (simp at hop)

theorem run_eqFields_am {D : Nat} {cmp : TypeId → Value → Value → Option Bool} {xs ys xs' ys' : Array Value} (hx : LRel ρ xs.toList xs'.toList) (hy : LRel ρ ys.toList ys'.toList)
    (hc : ∀ t a b a' b' r, cmp t a b = some r → VRel ρ a a' → VRel ρ b b' → (Op.equalIn D t a' b').run P w = .ok r w) :
    ∀ {fs : List Field} {r : Bool}, eqFields P cmp xs.toList ys.toList fs = some r → (Op.eqFields D xs' ys' fs).run P w = .ok r w
  | [], r, e => by simp [eqFields] at e; subst e; rfl
  | f :: fs, r, e => by
    simp only [eqFields] at e
    by_cases hn : f.name ≠ "_"
    · rw [if_pos hn] at e
      split at e
      case h_2 => cases e
      rename_i a b ea eb
      obtain ⟨a', ra, va⟩ := run_part ea hx w
      obtain ⟨b', rb, vb⟩ := run_part eb hy w
      have hstep : ∀ q, cmp f.type a b = some q → (Op.eqFields D xs' ys' (f :: fs)).run P w = if (!q) = true then .ok false w else (Op.eqFields D xs' ys' fs).run P w := fun q hq => by
        simp only [Op.eqFields, if_pos hn, Sem.run_bind, ra, rb, Result.andThen_ok, hc _ _ _ _ _ _ hq va vb]
        cases q <;> simp
      split at e
      · rename_i eq
        rw [hstep _ eq]
        simpa using run_eqFields_am hx hy hc e
      · rename_i hne
        cases hq : cmp f.type a b with
        | none => rw [hq] at e; cases e
        | some q =>
          rw [hq] at e
          simp at e; subst e
          cases q with
          | true => exact absurd hq hne
          | false => rw [hstep _ hq]; rfl
    · rw [if_neg hn] at e
      simp only [Op.eqFields, if_neg hn]
      exact run_eqFields_am hx hy hc e

set_option maxHeartbeats 1000000 in
theorem run_eq_am (d : Nat) : ∀ {t : TypeId} {x y x' y' : Value} {b : Bool}, eqB P d t x y = some b → VRel ρ x x' → VRel ρ y y' → ∀ D, d ≤ D → (Op.equalIn D t x' y').run P w = .ok b w := by
  induction d with
  | zero => intro t x y x' y' b e; simp [eqB] at e
  | succ d ih₀ =>
    intro t x y x' y' b e hx hy D hD
    obtain ⟨D, rfl⟩ : ∃ D', D = D' + 1 := ⟨D - 1, by omega⟩
    unfold eqB at e
    split at e
    case h_1 hu => cases hx; cases hy; simp at e; subst e; simp [Op.equalIn, run_underlying hu]
    case h_2 hu =>
      cases hx; cases hy
      split at e
      · simp at e; subst e; subst_vars; simp [Op.equalIn, run_underlying hu, ieqB_eq]
      · cases e
    case h_3 hu =>
      cases hx; cases hy
      simp only [Option.some.injEq] at e; subst e
      simp [Op.equalIn, run_underlying hu, beq_toListBytes, ByteArray.toList_eq, bytesEq_eq]
    case h_4 hu =>
      cases hx
      cases hy <;> (simp at e; subst e; simp [Op.equalIn, run_underlying hu])
    case h_5 hu => cases hx; cases hy; simp at e; subst e; simp [Op.equalIn, run_underlying hu]
    case h_6 hu => cases hx; cases hy; simp at e; subst e; simp [Op.equalIn, run_underlying hu]
    case h_7 hu => cases hx; cases hy; simp at e; subst e; simp [Op.equalIn, run_underlying hu]
    case h_8 hu => cases hx; cases hy; simp at e; subst e; simp [Op.equalIn, run_underlying hu]
    case h_9 tx vx ty vy hu =>
      cases hx with
      | iface hx =>
        cases hy with
        | iface hy =>
          split at e
          · rename_i hb
            simp at e; subst e
            simp [Op.equalIn, run_underlying hu, of_beq_f hb]
          · rename_i hb
            have := of_beq hb
            subst this
            split at e
            case h_2 => cases e
            rename_i i hi
            split at e
            case h_2 => cases e
            rename_i hcmp
            have ih := ih₀ e hx hy D (by omega)
            simp [Op.equalIn, run_underlying hu, run_typeInfo hi, hcmp, ih]
    case h_10 fields xs ys hu =>
      split at e
      case h_1 => cases e
      rename_i hst
      cases hx with
      | agg hx =>
        cases hy with
        | agg hy =>
          have hf : P.fieldsOf t = fields := by simp [Program.fieldsOf, hu]
          rw [run_equalIn_struct w D t _ _ (by rw [hf]; exact hu) hst, hf]
          exact run_eqFields_am hx hy (fun t a b a' b' r hq va vb => ih₀ hq va vb D (by omega)) e
    case h_11 hu =>
      cases hx
      cases hy <;> (simp at e; subst e; simp [Op.equalIn, run_underlying hu])
    case h_12 hu => cases hx <;> cases hy <;> (simp at e; subst e; simp [Op.equalIn, run_underlying hu])
    case h_13 hu =>
      cases hx
      cases hy <;> (simp at e; subst e; simp [Op.equalIn, run_underlying hu])
    case h_14 hu => cases hx <;> cases hy <;> (simp at e; subst e; simp [Op.equalIn, run_underlying hu])
    case h_15 hu => cases hx <;> cases hy <;> (simp at e; subst e; simp [Op.equalIn, run_underlying hu])
    case h_16 hu => cases hx <;> cases hy <;> (simp at e; subst e; simp [Op.equalIn, run_underlying hu])
    case h_17 hu => cases hx <;> cases hy <;> (simp at e; subst e; simp [Op.equalIn, run_underlying hu])
    case h_18 el r i r' i' hu =>
      split at e
      case h_2 => cases e
      rename_i hb hz
      simp only [Bool.and_eq_true] at hb
      have h1 := of_beq hb.1
      have h2 := of_beq hb.2
      subst h1; subst h2
      simp only [Option.some.injEq] at e; subst e
      cases hx with
      | ptr hx =>
        cases hy with
        | ptr hy =>
          have := hx.symm.trans hy
          simp only [Option.some.injEq] at this
          subst this
          simp [Op.equalIn, run_underlying hu, run_size hz, sameAddr]
    case h_19 => cases e
end
end Go.Am

/- The abstract machine: operators, conversions (2). -/
namespace Go.Am
set_option linter.unusedVariables false
section
variable {P : Program} {ρ : Env} {h h' : AW} {w : World}

theorem pow_cast (n : Nat) : ((2 ^ n : Nat) : Int) = (2 : Int) ^ n := by simp

theorem eqB_notJ {d : Nat} {t : TypeId} {x y : Value} {b : Bool} (e : eqB P d t x y = some b) : isJ x = false ∧ isJ y = false := by
  cases d with
  | zero => simp [eqB] at e
  | succ d =>
    unfold eqB at e
    split at e <;> first | exact ⟨rfl, rfl⟩ | cases e
theorem binOp_eql_other {t : TypeId} {x y : Value} (hj : isJ x = false ∧ isJ y = false) (hi : ∀ k a k' b, x = .int k a → y = .int k' b → False) (hs : ∀ a b, x = .string a → y = .string b → False) {x' y' : Value} (hx : VRel ρ x x') (hy : VRel ρ y y') :
    binOp .eql t x' y' = (do pure (.bool (← Op.equal t x' y'))) := by
  obtain ⟨hj1, hj2⟩ := hj
  cases hx <;> first | (simp [isJ] at hj1; done) | (cases hy <;> first | (simp [isJ] at hj2; done) | rfl | (exact (hi _ _ _ _ rfl rfl).elim) | (exact (hs _ _ rfl rfl).elim))
theorem binOp_neq_other {t : TypeId} {x y : Value} (hj : isJ x = false ∧ isJ y = false) (hi : ∀ k a k' b, x = .int k a → y = .int k' b → False) (hs : ∀ a b, x = .string a → y = .string b → False) {x' y' : Value} (hx : VRel ρ x x') (hy : VRel ρ y y') :
    binOp .neq t x' y' = (do pure (.bool (!(← Op.equal t x' y')))) := by
  obtain ⟨hj1, hj2⟩ := hj
  cases hx <;> first | (simp [isJ] at hj1; done) | (cases hy <;> first | (simp [isJ] at hj2; done) | rfl | (exact (hi _ _ _ _ rfl rfl).elim) | (exact (hs _ _ rfl rfl).elim))

theorem frozen_off {w : World} {b n : Nat} {C : Array Value} {e : TypeId} {f : Nat × Nat} (hb : w.heap[b]? = some (.cells C e f)) (hf : f.1 = f.2) : w.frozen? { block := b, off := n } = false := by
  obtain ⟨lo, hi⟩ := f
  simp only at hf
  simp only [World.frozen?, hb, Bool.and_eq_false_iff, decide_eq_false_iff_not]
  omega
theorem sameAddr_no {w : World} {b b' o o' : Nat} {C D : Array Value} {e e' : TypeId} {f f' : Nat × Nat} (hne : b ≠ b') (ha : w.heap[b]? = some (.cells C e f)) (hb : w.heap[b']? = some (.cells D e' f')) (hf : f.1 = f.2) (hf' : f'.1 = f'.2) : (sameAddr ⟨b, o, none⟩ ⟨b', o', none⟩).run P w = .ok false w := by
  have hsa : w.shape? b = some (e, C.size) := by simp [World.shape?, ha]
  have hsb : w.shape? b' = some (e', D.size) := by simp [World.shape?, hb]
  have fa : ∀ n, w.frozen? { block := b, off := n } = false := fun n => frozen_off ha hf
  have fb : ∀ n, w.frozen? { block := b', off := n } = false := fun n => frozen_off hb hf'
  simp [sameAddr, hne, frozen, noView, viewAt, mayBeOne, stringish, shape, Sem.run, hsa, hsb, fa, fb]
theorem run_two_am {t : TypeId} {x y x' y' : Value} (H : HRel P ρ h w) (e : twoB P t x y h = true) (hx : VRel ρ x x') (hy : VRel ρ y y') (D : Nat) : (Op.equalIn (D + 1) t x' y').run P w = .ok false w := by
  unfold twoB at e
  split at e
  case h_2 => cases e
  rename_i el r off r' off' hu
  cases h1 : getRow h r with
  | none => simp [h1] at e
  | some p =>
  cases h2 : getRow h r' with
  | none => simp [h1, h2] at e
  | some q =>
  cases hz : sizeB P el with
  | none => simp [h1, h2, hz] at e
  | some m =>
  cases m with
  | zero => simp [h1, h2, hz] at e
  | succ n =>
  obtain ⟨e₁, cs⟩ := p
  obtain ⟨e₂, cs'⟩ := q
  simp only [h1, h2, hz, Bool.and_eq_true, Bool.not_eq_true'] at e
  obtain ⟨e0, e3, e4⟩ := e
  obtain ⟨l, C, f, hl, hb, hf, _⟩ := H.at_plain h1 e3
  obtain ⟨l', C', f', hl', hb', hf', _⟩ := H.at_plain h2 e4
  have hne : l.block ≠ l'.block := fun hh => of_beq_f e0 (H.inj r r' _ _ l l' (getRow_eq h1) (getRow_eq h2) hl hl' hh (.inl rfl))
  cases hx with
  | ptr hx =>
  cases hy with
  | ptr hy =>
  rw [hl] at hx; rw [hl'] at hy
  simp only [Option.some.injEq] at hx hy
  subst hx; subst hy
  simp [Op.equalIn, run_underlying hu, samePointer, run_size hz, sameAddr_no hne hb hb' hf hf']
theorem twoB_ptr {t : TypeId} {x y : Value} (e : twoB P t x y h = true) : ∃ a b, x = .pointer a ∧ y = .pointer b := by
  unfold twoB at e
  split at e
  · exact ⟨_, _, rfl, rfl⟩
  · cases e
theorem run_bin_am {op : BinOp} {t : TypeId} {x y x' y' v : Value} (H : HRel P ρ h w) (e : binB P op t x y h = some v) (hx : VRel ρ x x') (hy : VRel ρ y y') : ∃ u, (binOp op t x' y').run P w = .ok u w ∧ VRel ρ v u := by
  unfold binB at e
  split at e
  case h_1 k a k' b =>
    cases hx; cases hy
    split at e
    case h_2 => cases e
    rename_i hb
    have hb := ileB_iff.1 hb
    simp at e; subst e
    refine ⟨_, ?_, .int _ _⟩
    rw [wrapB_eq]
    have hn : ¬ b < 0 := by omega
    simp [binOp, Op.shift, hn]
  case h_2 k a k' b =>
    cases hx; cases hy
    split at e
    case h_2 => cases e
    rename_i hb
    have hb := ileB_iff.1 hb
    simp only [Option.some.injEq] at e; subst e
    refine ⟨_, ?_, .int _ _⟩
    have hn : ¬ b < 0 := by omega
    rw [pow_cast]
    simp [binOp, Op.shift, hn]
  case h_3 op k a k' b hs1 hs2 =>
    cases hx; cases hy
    split at e
    case isFalse => cases e
    rename_i hk
    subst hk
    split at e
    case h_1 => simp only [Option.some.injEq] at e; subst e; exact ⟨_, by rw [binOp_add]; simp [Op.intArith, wrapB_eq], .int _ _⟩
    case h_2 => simp only [Option.some.injEq] at e; subst e; exact ⟨_, by rw [binOp_sub]; simp [Op.intArith, wrapB_eq], .int _ _⟩
    case h_3 => simp only [Option.some.injEq] at e; subst e; exact ⟨_, by rw [binOp_mul]; simp [Op.intArith, wrapB_eq], .int _ _⟩
    case h_4 =>
      split at e
      case h_1 => cases e
      rename_i hb
      rw [ieqB_eq] at hb
      have hb : b ≠ 0 := by simpa using hb
      simp only [Option.some.injEq] at e; subst e
      exact ⟨_, by rw [binOp_quo]; simp [Op.intDiv, hb, wrapB_eq], .int _ _⟩
    case h_5 =>
      split at e
      case h_1 => cases e
      rename_i hb
      rw [ieqB_eq] at hb
      have hb : b ≠ 0 := by simpa using hb
      simp only [Option.some.injEq] at e; subst e
      exact ⟨_, by rw [binOp_rem]; simp [Op.intDiv, hb], .int _ _⟩
    case h_6 => simp only [Option.some.injEq] at e; subst e; exact ⟨_, by rw [binOp_and, intBits_and, bits, wrapB_eq, bitsB_eq, bitsB_eq, BitVec.toNat_and]; rfl, .int _ _⟩
    case h_7 => simp only [Option.some.injEq] at e; subst e; exact ⟨_, by rw [binOp_or, intBits_or, bits, wrapB_eq, bitsB_eq, bitsB_eq, BitVec.toNat_or]; rfl, .int _ _⟩
    case h_8 => simp only [Option.some.injEq] at e; subst e; exact ⟨_, by rw [binOp_xor, intBits_xor, bits, wrapB_eq, bitsB_eq, bitsB_eq, BitVec.toNat_xor]; rfl, .int _ _⟩
    case h_9 => simp only [Option.some.injEq] at e; subst e; exact ⟨_, by rw [binOp_eql, ieqB_eq]; rfl, .bool _⟩
    case h_10 => simp only [Option.some.injEq] at e; subst e; exact ⟨_, by rw [binOp_neq, ieqB_eq]; rfl, .bool _⟩
    case h_11 =>
      simp only [Option.some.injEq] at e; subst e
      refine ⟨.bool (!ileB b a), ?_, .bool _⟩
      rw [binOp_lss, ileB_eq]
      have : decide (a < b) = !decide (b ≤ a) := by by_cases h : b ≤ a <;> simp [h] <;> omega
      rw [this]; rfl
    case h_12 => simp only [Option.some.injEq] at e; subst e; exact ⟨_, by rw [binOp_leq, ileB_eq]; rfl, .bool _⟩
    case h_13 =>
      simp only [Option.some.injEq] at e; subst e
      refine ⟨.bool (!ileB a b), ?_, .bool _⟩
      rw [binOp_gtr, ileB_eq]
      have : decide (a > b) = !decide (a ≤ b) := by by_cases h : a ≤ b <;> simp [h] <;> omega
      rw [this]; rfl
    case h_14 => simp only [Option.some.injEq] at e; subst e; exact ⟨_, by rw [binOp_geq, ileB_eq]; rfl, .bool _⟩
    case h_15 => cases e
  case h_4 =>
    cases hx; cases hy
    rename_i a b
    have hl : ∀ s : ByteArray, s.toList = s.data.toList := ByteArray.toList_eq
    simp only at e
    split at e
    case h_1 =>
      split at e
      case h_2 => cases e
      rename_i zs hle hj
      have hle := of_ble hle
      have hj := join_eq hj
      simp only [Option.some.injEq] at e; subst e
      refine ⟨.string (a ++ b), ?_, ?_⟩
      · have hno : ¬ (((a.size + b.size : Nat) : Int) > IntKind.i64.max) := by
          rw [IntKind.max_i64]
          have h1 : a.data.toList.length = a.size := by rw [Array.length_toList]; rfl
          have h2 : b.data.toList.length = b.size := by rw [Array.length_toList]; rfl
          omega
        rw [binOp_string_add]
        simp only [Op.stringOp]
        rw [if_neg hno]; rfl
      · have : a ++ b = ⟨⟨zs⟩⟩ := by
          apply ByteArray.ext
          rw [ByteArray.data_append, hj]
          apply Array.ext'
          simp
        rw [this]; exact .string _
    case h_2 => simp only [Option.some.injEq] at e; subst e; exact ⟨_, by rw [binOp_string_eql, hl, hl, bytesEq_eq]; rfl, .bool _⟩
    case h_3 => simp only [Option.some.injEq] at e; subst e; exact ⟨_, by rw [binOp_string_neq, hl, hl, bytesEq_eq]; rfl, .bool _⟩
    case h_4 => simp only [Option.some.injEq] at e; subst e; exact ⟨_, by rw [binOp_string_lss, hl, hl, bytesLt_eq]; rfl, .bool _⟩
    case h_5 => simp only [Option.some.injEq] at e; subst e; exact ⟨_, by simp only [binOp, Op.stringOp]; rw [hl, hl, bytesLt_eq, bytesEq_eq]; rfl, .bool _⟩
    case h_6 => simp only [Option.some.injEq] at e; subst e; exact ⟨_, by simp only [binOp, Op.stringOp]; rw [hl, hl, bytesLt_eq, bytesEq_eq]; rfl, .bool _⟩
    case h_7 => simp only [Option.some.injEq] at e; subst e; exact ⟨_, by simp only [binOp, Op.stringOp]; rw [hl, hl, bytesLt_eq]; rfl, .bool _⟩
    case h_8 => cases e
  case h_5 hi hs =>
    split at e
    case h_2 =>
      split at e
      case h_2 => cases e
      rename_i h2
      simp only [Option.some.injEq] at e; subst e
      obtain ⟨p, q, rfl, rfl⟩ := twoB_ptr h2
      refine ⟨.bool false, ?_, .bool _⟩
      rw [binOp_eql_other ⟨rfl, rfl⟩ (fun k a k' b h1 h2 => (by cases h1)) (fun a b h1 h2 => (by cases h1)) hx hy]
      have := run_two_am H h2 hx hy (Op.maxDepth - 1)
      rw [show Op.maxDepth - 1 + 1 = Op.maxDepth from rfl] at this
      simp [Op.equal, this]
    rename_i b hb
    simp only [Option.some.injEq] at e; subst e
    refine ⟨.bool b, ?_, .bool _⟩
    rw [binOp_eql_other (eqB_notJ hb) (fun k a k' b h1 h2 => hi k a k' b h1 h2) (fun a b h1 h2 => hs a b h1 h2) hx hy]
    simp [Op.equal, run_eq_am (P := P) (w := w) 100 hb hx hy Op.maxDepth (by decide)]
  case h_6 hi hs =>
    split at e
    case h_2 =>
      split at e
      case h_2 => cases e
      rename_i h2
      simp only [Option.some.injEq] at e; subst e
      obtain ⟨p, q, rfl, rfl⟩ := twoB_ptr h2
      refine ⟨.bool true, ?_, .bool _⟩
      rw [binOp_neq_other ⟨rfl, rfl⟩ (fun k a k' b h1 h2 => (by cases h1)) (fun a b h1 h2 => (by cases h1)) hx hy]
      have := run_two_am H h2 hx hy (Op.maxDepth - 1)
      rw [show Op.maxDepth - 1 + 1 = Op.maxDepth from rfl] at this
      simp [Op.equal, this]
    rename_i b hb
    simp only [Option.some.injEq] at e; subst e
    refine ⟨.bool (!b), ?_, .bool _⟩
    rw [binOp_neq_other (eqB_notJ hb) (fun k a k' b h1 h2 => hi k a k' b h1 h2) (fun a b h1 h2 => hs a b h1 h2) hx hy]
    simp [Op.equal, run_eq_am (P := P) (w := w) 100 hb hx hy Op.maxDepth (by decide)]
  case h_7 => cases e

theorem run_un_am {op : UnOp} {x x' v : Value} (e : unB op x = some v) (hx : VRel ρ x x') : ∃ u, (Op.unary op x').run P w = .ok u w ∧ VRel ρ v u := by
  unfold unB at e
  split at e
  · cases hx; simp at e; subst e; exact ⟨_, rfl, .bool _⟩
  · cases hx; simp only [Option.some.injEq] at e; subst e
    exact ⟨_, by simp [Op.unary, Op.intArith, wrapB_eq], .int _ _⟩
  · rename_i k n
    cases hx; simp only [Option.some.injEq] at e; subst e
    exact ⟨_, by simp only [Op.unary]; rw [intBits_xor, bits, wrapB_eq, bitsB_eq, bitsB_eq, BitVec.toNat_xor]; rfl, .int _ _⟩
  · cases e

theorem cellsOfB_eq : ∀ {bs : List UInt8} {vs : List Value}, cellsOfB bs = some vs → vs = bs.map fun b => .int .u8 b.toNat
  | [], vs, e => by simp only [cellsOfB, Option.some.injEq] at e; subst e; rfl
  | b :: bs, vs, e => by
    simp only [cellsOfB] at e
    split at e
    · rename_i us eu
      simp at e; subst e
      simp [cellsOfB_eq eu]
    · cases e
theorem bytes_flat (ρ : Env) : ∀ (bs : List UInt8), LRel ρ (bs.map fun b => Value.int .u8 b.toNat) (bs.map fun b => Value.int .u8 b.toNat)
  | [] => .nil
  | b :: bs => .cons (.int _ _) (bytes_flat ρ bs)
theorem bytesOfB_rel : ∀ {vs us : List Value} {bs : List UInt8}, bytesOfB vs = some bs → LRel ρ vs us → ∃ ns : List Int, us = ns.map (fun n => Value.int .u8 n) ∧ bs = ns.map fun n => UInt8.ofNat n.toNat
  | [], us, bs, e, hr => by simp [bytesOfB] at e; subst e; cases hr; exact ⟨[], rfl, rfl⟩
  | v :: vs, us, bs, e, hr => by
    cases hr with
    | cons hv hr =>
      cases v <;> first | (simp [bytesOfB] at e; done) | skip
      rename_i k n
      cases k <;> first | (simp [bytesOfB] at e; done) | skip
      simp only [bytesOfB] at e
      split at e
      · rename_i bs' e'
        simp at e; subst e
        cases hv
        obtain ⟨ns, h1, h2⟩ := bytesOfB_rel e' hr
        exact ⟨n :: ns, by simp [h1], by simp [h2]⟩
      · cases e

theorem isU8_eq {e : TypeId} (h : isU8 P e = true) : P.underlying e = some (.int .u8) := by
  unfold isU8 at h
  split at h
  · assumption
  · cases h

/-- The text of bytes, as the model makes it of their cells. -/
theorem run_bytesToString_am {a : Addr} {len cap : Nat} {ns : List Int} (hl : (loadCells a len).run P w = .ok ⟨ns.map fun n => Value.int .u8 n⟩ w) :
    (Conv.bytesToString (.slice (some a) len cap)).run P w = .ok (.string ⟨⟨ns.map fun n => UInt8.ofNat n.toNat⟩⟩) w := by
  simp only [Conv.bytesToString, Sem.run_bind, hl, Result.andThen_ok]
  rw [← Array.forIn_toList]
  have key : ∀ (g : Value → ByteArray → Sem (ForInStep ByteArray)) (ns : List Int) (s : ByteArray), (∀ n s, g (.int .u8 n) s = pure (ForInStep.yield (s.push (UInt8.ofNat n.toNat)))) →
      (forIn (m := Sem) (ns.map fun n => Value.int .u8 n) s g).run P w = .ok ⟨⟨s.data.toList ++ ns.map fun n => UInt8.ofNat n.toNat⟩⟩ w := by
    intro g ns
    induction ns with
    | nil => intro s _; simp
    | cons n ns ih =>
      intro s hg
      simp only [List.map_cons, List.forIn_cons, Sem.run_bind, hg, Sem.run_pure, Result.andThen_ok]
      rw [ih _ hg]
      simp [ByteArray.push]
  refine Eq.trans (congrArg (fun r => Result.andThen r _) (key _ ns ByteArray.empty fun n s => rfl)) ?_
  simp
end
end Go.Am

/- The abstract machine: conversions; append, len, min and max. -/
namespace Go.Am
set_option linter.unusedVariables false
section
variable {P : Program} {ρ : Env} {h h' : AW} {w : World}

theorem choose_cap (need old : Nat) (e : TypeId) (hn : need < 2 ^ 63) : ∃ c w', (choose (.appendCap need old e)).run P w = .ok c w' ∧ (need ≤ c ∧ c < openCap) ∧ w'.heap = w.heap ∧ w'.os = w.os ∧ w'.tape = w.tape ∧ w'.output = w.output := by
  refine ⟨need + (w.tape w.drawn (.appendCap need old e)) % (2 ^ 63 - need), { w with drawn := w.drawn + 1 }, ?_, ⟨by omega, by have := Nat.mod_lt (w.tape w.drawn (.appendCap need old e)) (show 0 < 2 ^ 63 - need by omega); unfold openCap; omega⟩, rfl, rfl, rfl, rfl⟩
  rw [run_choose, if_neg (by simp [Question.forced])]
  rfl

theorem HRel.draw {w' : World} (H : HRel P ρ h w) (hh : w'.heap = w.heap) : HRel P ρ h w' :=
  ⟨fun r row hr => let ⟨l, hl, x⟩ := H.loc r row hr; ⟨l, hl, x.keep (Env.le_refl _) (by rw [hh])⟩, H.inj, H.fresh, H.step⟩
theorem Turn.draw {w' w'' : World} {ρ' : Env} (hh : w'.heap = w.heap) (h1 : w'.os = w.os) (h2 : w'.tape = w.tape) (h3 : w'.output = w.output) (T : Turn ρ h w' ρ' h' w'') : Turn ρ h w ρ' h' w'' :=
  ⟨T.le, T.os.trans h1, T.tape.trans h2, T.output.trans h3, by rw [← hh]; exact T.size, by rw [← hh]; exact T.own, by rw [← hh]; exact T.keep, T.new, T.next, T.steps⟩

/-- A new slice whose capacity is not known. -/
theorem slice_open {r len cap : Nat} {l : Loc} (hl : len ≤ cap) (hx : cap * l.esz ≤ l.ext) (hb : cap < openCap) : VRel (upd ρ r l) (.slice (some ⟨r, 0, none⟩) len openCap) (.slice (some ⟨l.block, l.base + 0, none⟩) len cap) :=
  .slice hl (fun hne => absurd rfl hne) fun _ => ⟨l, by simp [upd], rfl, fun _ => ⟨by omega, hb⟩⟩

theorem getElem_push_lt {α : Type} (a : Array α) (x : α) (k : Nat) (h : k < a.size) : (a.push x)[k]? = a[k]? := by rw [Array.getElem?_push, if_neg (by omega)]

theorem size_u8 {e : TypeId} {n : Nat} (hu : P.underlying e = some (.int .u8)) (hsz : sizeB P e = some n) (h1 : u8OneB P e = true) : n = 1 := by
  unfold u8OneB at h1
  rw [hsz] at h1
  exact of_beq h1

theorem freeze_other (b n k : Nat) (c : Nat) (hk : k ≠ b) : (w.freeze ⟨b, c, none⟩ n).heap[k]? = w.heap[k]? := by
  unfold World.freeze
  split
  · rfl
  · simp only [Array.getElem?_modify]
    rw [if_neg (by omega)]
theorem freeze_size (b n c : Nat) : (w.freeze ⟨b, c, none⟩ n).heap.size = w.heap.size := by
  unfold World.freeze
  split
  · rfl
  · simp
theorem freeze_rest (a : Addr) (n : Nat) : (w.freeze a n).os = w.os ∧ (w.freeze a n).tape = w.tape ∧ (w.freeze a n).output = w.output := by
  unfold World.freeze
  split <;> exact ⟨rfl, rfl, rfl⟩
theorem freeze_at {b : Nat} {C : Array Value} {e : TypeId} {f : Nat × Nat} (hb : w.heap[b]? = some (.cells C e f)) (hf : f.1 = f.2 ∨ C.size ≤ f.1) :
    ∃ f' : Nat × Nat, (f'.1 = f'.2 ∨ C.size ≤ f'.1) ∧ (w.freeze ⟨b, C.size, none⟩ 1).heap[b]? = some (.cells C e f') := by
  obtain ⟨lo, hi⟩ := f
  refine ⟨if lo == hi then (C.size, C.size + 1) else (min lo C.size, max hi (C.size + 1)), ?_, ?_⟩
  · right
    split
    · exact Nat.le_refl _
    · rename_i hne
      simp at hf hne ⊢
      omega
  · unfold World.freeze
    rw [if_neg (by omega)]
    simp only [Array.getElem?_modify, if_pos, hb]
    rfl

theorem run_mark_am {b : Nat} {o : Nat} {C : Array Value} {e : TypeId} {f : Nat × Nat} (hb : w.heap[b]? = some (.cells C e f)) : (markStringish ⟨b, o, none⟩).run P w = .ok () (w.freeze ⟨b, C.size, none⟩ 1) := by
  have hsh : w.shape? b = some (e, C.size) := by simp [World.shape?, hb]
  simp [markStringish, hsh]

theorem sizeB_info {t : TypeId} {n : Nat} (h : sizeB P t = some n) : ∃ i, P.info? t = some i ∧ i.size = n := by
  unfold sizeB at h
  split at h
  · rename_i i hi; simp at h; exact ⟨i, hi, h⟩
  · cases h
theorem run_to_unsafe_am {src dst t e : TypeId} {j : TypeInfo} {b o : Nat} {C : Array Value} {f : Nat × Nat} (hs : P.underlying src = some (.pointer t)) (hd : P.underlying dst = some .unsafePointer) (ht : P.info? t = some j) (hj : j.size ≠ 0)
    (hb : w.heap[b]? = some (.cells C e f)) (ho : o < C.size) : (convert src dst (.pointer (some ⟨b, o, none⟩))).run P w = .ok (.pointer (some ⟨b, o, none⟩)) w := by
  have hsh : w.shape? b = some (e, C.size) := by simp [World.shape?, hb]
  simp [convert, run_underlying hs, run_underlying hd, Conv.unsafePointer, Conv.seenAt, viewAt, cellsIn, hsh, sizeOf, typeInfo, ht, hj]
  intro h
  omega
theorem lies_self {u : TypeId} {j : TypeInfo} {count : Nat} (hu : P.info? u = some j) (hj : j.size ≠ 0) (hc : 1 ≤ count) : liesAt P P.depth u count 0 u 1 = true := by
  have hd : P.depth = (2 * (P.types.size + Made.depth) + 1) + 1 := rfl
  have hcl : P.cellsOf u = j.size := by simp [Program.cellsOf, hu]
  rw [hd]
  simp only [liesAt, Bool.or_eq_true]
  left
  rw [hd]
  simp [rowAt, hcl, hj, sameLayout, hc]
theorem run_from_unsafe_am {src dst u : TypeId} {j : TypeInfo} {b o : Nat} {C : Array Value} {f : Nat × Nat} (hs : P.underlying src = some .unsafePointer) (hd : P.underlying dst = some (.pointer u)) (hu : P.info? u = some j) (hj : j.size ≠ 0)
    (hb : w.heap[b]? = some (.cells C u f)) (ho : o = 0 ∧ j.size ≤ C.size) : (convert src dst (.pointer (some ⟨b, o, none⟩))).run P w = .ok (.pointer (some ⟨b, o, none⟩)) w := by
  have hsh : w.shape? b = some (u, C.size) := by simp [World.shape?, hb]
  obtain ⟨rfl, ho⟩ := ho
  have hcl : P.cellsOf u = j.size := by simp [Program.cellsOf, hu]
  have hl : liesAt P P.depth u (C.size / P.cellsOf u) 0 u 1 = true := lies_self hu hj (by rw [hcl]; exact (Nat.one_le_div_iff (by omega)).2 ho)
  simp [convert, run_underlying hs, run_underlying hd, Conv.unsafePointer, Conv.seenAt, viewAt, hsh, variablesAt, hl, sizeOf, typeInfo, hu]

theorem lies_first {e u : TypeId} {i j : TypeInfo} {count : Nat} (hu : P.info? u = some i) (hi : i.size ≠ 0) (he : P.info? e = some j) (hj : j.size ≠ 0) (hf : headB P e u = true) (hc : 1 ≤ count) : liesAt P P.depth e count 0 u 1 = true := by
  have hd : P.depth = ((2 * (P.types.size + Made.depth)) + 1) + 1 := rfl
  have hcl : P.cellsOf e = j.size := by simp [Program.cellsOf, he]
  have hcu : P.cellsOf u = i.size := by simp [Program.cellsOf, hu]
  rw [hd]
  simp only [liesAt, Bool.or_eq_true]
  left
  unfold headB at hf
  split at hf
  case h_2 => cases hf
  rename_i fs hfs
  rw [Bool.and_eq_true] at hf
  obtain ⟨hs, hany⟩ := hf
  rw [hd, rowAt]
  simp only [hcl, hj, if_false, Nat.zero_div, Nat.zero_mod, hfs, Bool.or_eq_true, Bool.and_eq_true]
  right
  refine ⟨decide_eq_true (by omega), hs, ?_⟩
  rw [Array.any_eq_true] at hany ⊢
  obtain ⟨k, hk, hf⟩ := hany
  refine ⟨k, hk, ?_⟩
  simp only [Bool.and_eq_true] at hf
  have h1 := of_beq hf.1
  have h2 := of_beq hf.2
  have hsl : sameLayout P ((2 * (P.types.size + Made.depth)) + 1 + 1) u u = true := by simp [sameLayout]
  simp only [h1, h2, hcu, rowAt, Nat.sub_zero, Nat.zero_add, hi, if_false, Nat.zero_div, Nat.zero_mod, hsl, Bool.and_eq_true, Bool.or_eq_true]
  exact ⟨⟨decide_eq_true (Nat.le_refl _), decide_eq_true (by omega)⟩, .inl ⟨⟨rfl, decide_eq_true (by omega)⟩, trivial⟩⟩
theorem run_from_first_am {src dst u e : TypeId} {i j : TypeInfo} {b o : Nat} {C : Array Value} {f : Nat × Nat} (hs : P.underlying src = some .unsafePointer) (hd : P.underlying dst = some (.pointer u)) (hu : P.info? u = some i) (hi : i.size ≠ 0)
    (he : P.info? e = some j) (hj : j.size ≠ 0) (hf : headB P e u = true) (hb : w.heap[b]? = some (.cells C e f)) (ho : o = 0 ∧ j.size ≤ C.size) : (convert src dst (.pointer (some ⟨b, o, none⟩))).run P w = .ok (.pointer (some ⟨b, o, none⟩)) w := by
  have hsh : w.shape? b = some (e, C.size) := by simp [World.shape?, hb]
  obtain ⟨rfl, ho⟩ := ho
  have hcl : P.cellsOf e = j.size := by simp [Program.cellsOf, he]
  have hl : liesAt P P.depth e (C.size / P.cellsOf e) 0 u 1 = true := lies_first hu hi he hj hf (by rw [hcl]; exact (Nat.one_le_div_iff (by omega)).2 ho)
  simp [convert, run_underlying hs, run_underlying hd, Conv.unsafePointer, Conv.seenAt, viewAt, hsh, variablesAt, hl, sizeOf, typeInfo, hu]

theorem run_conv_am {src dst : TypeId} {x x' v : Value} (H : HRel P ρ h w) (e : convB P src dst x h = some (v, h')) (hx : VRel ρ x x') : Done P ρ h w (convert src dst x') v h' := by
  unfold convB at e
  split at e
  case h_1 k k' n hs hd =>
    cases hx
    simp at e; obtain ⟨rfl, rfl⟩ := e
    exact Done.quiet H (by rw [run_convert_int w src dst _ _ (by rw [hs]; rfl) (by simp [Program.intKind, hd])]) (by simp [Program.intKind, hd, wrapB_eq]; exact .int _ _)
  case h_2 s hs hd =>
    cases hx
    simp at e; obtain ⟨rfl, rfl⟩ := e
    exact Done.quiet H (by simp [convert, run_underlying hs, run_underlying hd]) (.string _)
  case h_3 el s hs hd =>
    cases hx
    split at e
    case h_2 => cases e
    rename_i vs hu8 hvs
    simp only [Bool.and_eq_true] at hu8
    obtain ⟨⟨hu8, hone⟩, hsmall⟩ := hu8
    have hu8b := hu8
    have hu8 := isU8_eq hu8
    have hsmall := of_ble hsmall
    have hvs := cellsOfB_eq hvs
    split at e
    case h_2 => cases e
    rename_i r h₂ hnew
    obtain ⟨n, hn, hnew⟩ := newCells_eq hnew
    have h1 := size_u8 hu8 hn hone
    subst h1
    simp at e; obtain ⟨rfl, rfl⟩ := e
    have hsz : s.data.toList.length = s.size := by rw [Array.length_toList]; rfl
    obtain ⟨c, w₁, hch, ⟨hle, hcb⟩, hh, ho, ht, hou⟩ := choose_cap (P := P) (w := w) s.size 0 el (by rw [← hsz]; omega)
    let C : Array Value := s.data.map (fun b => .int .u8 b.toNat) ++ Array.replicate (c - s.size) (.int .u8 0)
    have hC : C.size = c := by simp [C]; have : s.data.size = s.size := rfl; omega
    let l : Loc := ⟨w₁.heap.size, 0, C.size, 1⟩
    have hblk₁ : (w₁.alloc (.cells C el)).heap[w₁.heap.size]? = some (.cells C el (0, 0)) := by
      show (w₁.heap.push _)[w₁.heap.size]? = _
      simp
    let w₂ : World := (w₁.alloc (.cells C el)).freeze ⟨w₁.heap.size, C.size, none⟩ 1
    obtain ⟨f', hf', hblk⟩ := freeze_at hblk₁ (.inl rfl)
    have hrun : (convert src dst (.string s)).run P w = .ok (.slice (some ⟨w₁.heap.size, 0, none⟩) s.size c) w₂ := by
      have hm := run_mark_am (P := P) (o := 0) hblk₁
      simp only [convert, Sem.run_bind, run_underlying hs, run_underlying hd, Result.andThen_ok, run_underlying hu8, Conv.stringToBytes, hch, newRow, run_newObj, Sem.run_pure, World.alloc_eq]
      have hC' : Array.map (fun b => Value.int IntKind.u8 ↑b.toNat) s.data ++ Array.replicate (c - s.size) (Value.int IntKind.u8 0) = C := rfl
      rw [hC', hm]
      rfl
    obtain ⟨a, b⟩ := (H.draw hh).new_block (w' := w₂) (l := l) hnew rfl (freeze_rest _ _).1 (freeze_rest _ _).2.1 (freeze_rest _ _).2.2 (by simp only [w₂]; rw [freeze_size]; simp) (fun k hk => by
      simp only [w₂]
      rw [freeze_other _ _ _ _ (by omega)]
      exact getElem_push_lt _ _ _ hk) (by
      refine ⟨C, f', hblk, hf'.imp id (fun q => ⟨q, hu8b⟩), by rw [hvs]; simp [l, C], by simp [l], ⟨hn, .inl rfl⟩, fun i v hv => ?_⟩
      rw [hvs, List.getElem?_map] at hv
      cases hb : s.data.toList[i]? with
      | none => rw [hb] at hv; simp at hv
      | some b =>
        rw [hb] at hv; simp at hv; subst hv
        refine ⟨.int .u8 b.toNat, ?_, .int _ _⟩
        have hi : i < s.data.size := by
          rw [Array.getElem?_toList] at hb
          exact (Array.getElem?_eq_some_iff.1 hb).1
        simp only [l, Nat.zero_add, C]
        rw [Array.getElem?_append_left (by simpa using hi), Array.getElem?_map, ← Array.getElem?_toList, hb]
        rfl)
    refine ⟨_, w₂, upd ρ r l, hrun, ?_, a, b.draw hh ho ht hou⟩
    have := slice_open (ρ := ρ) (r := r) (len := s.size) (cap := c) (l := l) hle (by simp [l]; omega) hcb
    exact this
  case h_4 e₀ el r off len cap hs hd =>
    split at e
    case h_2 => cases e
    rename_i e' cs hb hrow
    simp only [Bool.and_eq_true] at hb
    obtain ⟨⟨hb1, hb2⟩, hb3⟩ := hb
    split at e
    case h_2 => cases e
    rename_i hu8'

    have hb1 := of_beq hb1
    have hb2 := isU8_eq hb2
    have hb3 := of_ble hb3
    subst hb1
    rw [hs] at hd; simp at hd; subst hd
    simp at e; obtain ⟨rfl, rfl⟩ := e
    cases hx with
    | @slice _ _ _ _ cap' a hl hc ha =>
      obtain ⟨l, hlr, rfl, hext⟩ := ha (by omega)
      obtain ⟨l', C, f, hl', hblk, hf, h1, h2, h3, rel⟩ := H.at_fits hrow
      rw [hlr] at hl'; simp at hl'; subst hl'
      obtain ⟨f', hf', hblk'⟩ := freeze_at hblk hf
      have hm := run_mark_am (P := P) (o := l.base + off) hblk
      refine ⟨_, _, ρ, by simp only [convert, Sem.run_bind, run_underlying hs, Result.andThen_ok, run_underlying hb2, beq_self_eq_true, hm, Sem.run_pure]; rfl, .slice hl hc fun hz => ⟨l, hlr, rfl, hext⟩, ⟨fun r' row' hr' => ?_, H.inj, H.fresh, H.step⟩,
        ⟨Env.le_refl _, (freeze_rest _ _).1, (freeze_rest _ _).2.1, (freeze_rest _ _).2.2, by rw [freeze_size]; exact Nat.le_refl _, fun r' row' l' x xo y _ => ⟨r', row', l', x, xo, y, rfl⟩, fun k hk hno => freeze_other _ _ _ _ (fun hh => hno r _ l (getRow_eq hrow) rfl hlr hh.symm), fun _ _ x => .inl x, ⟨0, by simp⟩, rfl⟩⟩
      obtain ⟨l', hl', hrr⟩ := H.loc r' row' hr'
      by_cases hsame : r' = r
      · subst hsame
        rw [getRow_eq hrow] at hr'; simp at hr'; subst hr'
        exact ⟨l, hlr, C, f', hblk', hf'.imp id (fun q => ⟨q, hu8'⟩), h1, h2, h3, rel⟩
      · exact ⟨l', hl', hrr.keep (Env.le_refl _) (freeze_other _ _ _ _ fun hh => hsame (H.inj r' r _ _ l' l hr' (getRow_eq hrow) hl' hlr hh (.inr rfl)))⟩
  case h_5 el n c hs hd =>
    split at e
    case h_2 => cases e
    rename_i hu8
    have hu8 := isU8_eq hu8
    simp at e; obtain ⟨rfl, rfl⟩ := e
    cases hx
    exact Done.quiet H (u := .string ByteArray.empty) (by simp [convert, run_underlying hs, run_underlying hd, run_underlying hu8, Conv.bytesToString]) (.string _)
  case h_6 el r off len cap hs hd =>
    split at e
    case h_3 => cases e
    case h_1 hu8 hb =>
      have hu8 := isU8_eq hu8
      have hb := of_beq hb
      subst hb
      simp at e; obtain ⟨rfl, rfl⟩ := e
      cases hx with
      | @slice _ _ _ _ cap' a hl hc ha =>
        refine Done.quiet H (u := .string ⟨⟨[]⟩⟩) ?_ (.string _)
        have := run_bytesToString_am (P := P) (w := w) (a := a) (len := 0) (cap := cap') (ns := []) rfl
        simp only [convert, Sem.run_bind, run_underlying hs, run_underlying hd, Result.andThen_ok, run_underlying hu8]
        exact this
    case h_2 hu8 hb =>
      have hu8 := isU8_eq hu8
      have hb := of_beq_f hb
      split at e
      case h_2 => cases e
      rename_i cs hrow
      split at e
      case h_2 => cases e
      rename_i vs hcut
      split at e
      case h_2 => cases e
      rename_i bs hbs
      simp at e; obtain ⟨rfl, rfl⟩ := e
      cases hx with
      | @slice _ _ _ _ cap' a hl hc ha =>
        obtain ⟨l, hlr, rfl, hext⟩ := ha (by omega)
        obtain ⟨l', hl', rel⟩ := H.at_read hrow
        rw [hlr] at hl'; simp at hl'; subst hl'
        obtain ⟨hvs, hle, hlen, hoff⟩ := cut_eq hcut
        obtain ⟨us, hrel, hus⟩ := cells_there (w := w) (ρ := ρ) (b := l.block) (o := l.base + off) (vs := vs) (fun i x hx => by
          rw [hvs, List.getElem?_take] at hx
          split at hx
          · rw [List.getElem?_drop] at hx
            obtain ⟨u, hu, hv⟩ := rel _ _ hx
            exact ⟨u, by rw [← hu]; congr 2; omega, hv⟩
          · cases hx)
        have hrun := run_loadCells_list (P := P) w ⟨l.block, l.base + off, none⟩ us (fun j u hu => by rw [add_eq]; exact hus j u hu)
        have hun : us.length = len := by rw [← hrel.length, hlen]
        rw [hun] at hrun
        obtain ⟨ns, hns, hbs'⟩ := bytesOfB_rel hbs hrel
        subst hns hbs'
        refine Done.quiet H (u := .string ⟨⟨ns.map fun n => UInt8.ofNat n.toNat⟩⟩) ?_ (.string _)
        have := run_bytesToString_am (P := P) (w := w) (a := ⟨l.block, l.base + off, none⟩) (len := len) (cap := cap') (ns := ns) hrun
        simp only [convert, Sem.run_bind, run_underlying hs, run_underlying hd, Result.andThen_ok, run_underlying hu8]
        exact this
  case h_7 t r off hs hd =>
    split at e
    case h_2 => cases e
    rename_i n e₀ cs hsz hrow
    split at e
    case h_2 => cases e
    rename_i hb
    have hb := of_ble hb
    simp at e; obtain ⟨rfl, rfl⟩ := e
    cases hx with
    | @ptr _ _ l hl =>
      obtain ⟨l', C, f, hl', hblk, hf, h1, h2, h3, rel⟩ := H.at_cells hrow
      rw [hl] at hl'; simp at hl'; subst hl'
      obtain ⟨i, hi, hin⟩ := sizeB_info hsz
      exact Done.quiet H (run_to_unsafe_am hs hd hi (by omega) hblk (show l.base + off < C.size by omega)) (.ptr hl)
  case h_8 u r off hs hd =>
    split at e
    case h_2 => cases e
    rename_i e₀ cs n hrow hsz
    split at e
    case h_2 =>
      split at e
      case h_2 => cases e
      rename_i hb
      simp only [Bool.and_eq_true] at hb
      obtain ⟨⟨hb1, hb2⟩, hb3, hb4⟩ := hb
      have hb2 := of_beq hb2
      subst hb2
      simp at e; obtain ⟨rfl, rfl⟩ := e
      cases hx with
      | @ptr _ _ l hl =>
        obtain ⟨l', C, f, hl', hblk, hf, h1, h2, h3, rel⟩ := H.at_fits hrow
        rw [hl] at hl'; simp at hl'; subst hl'
        obtain ⟨i, hi, hin⟩ := sizeB_info hsz
        have hbase : l.base = 0 := h3.home.elim id fun q => by rw [q] at hb3; cases hb3
        unfold wholeB at hb4
        split at hb4
        case h_2 => cases hb4
        rename_i m hm
        obtain ⟨j, hj, hjn⟩ := sizeB_info hm
        have hb4 := of_ble hb4
        refine Done.quiet H (run_from_first_am hs hd hi (by omega) hj (by omega) hb1 hblk ?_) (.ptr hl)
        show l.base + 0 = 0 ∧ j.size ≤ C.size
        omega
    rename_i hb
    simp only [Bool.and_eq_true] at hb
    obtain ⟨⟨⟨hb1, hb2⟩, hb3⟩, hb4⟩ := hb
    have hb1 := of_beq hb1
    have hb2 := of_beq hb2
    have hb4 := of_ble hb4
    subst hb1 hb2
    simp at e; obtain ⟨rfl, rfl⟩ := e
    cases hx with
    | @ptr _ _ l hl =>
      obtain ⟨l', C, f, hl', hblk, hf, h1, h2, h3, rel⟩ := H.at_fits hrow
      rw [hl] at hl'; simp at hl'; subst hl'
      obtain ⟨i, hi, hin⟩ := sizeB_info hsz
      have hbase : l.base = 0 := h3.home.elim id fun q => by rw [q] at hb3; cases hb3
      refine Done.quiet H (run_from_unsafe_am hs hd hi (by omega) hblk ?_) (.ptr hl)
      show l.base + 0 = 0 ∧ i.size ≤ C.size
      omega
  case h_9 => cases e
end
end Go.Am

/- The abstract machine: append, len, min and max. -/
namespace Go.Am
set_option linter.unusedVariables false
section
variable {P : Program} {ρ : Env} {h h' : AW} {w : World}

theorem slid_of {P : Program} {e : TypeId} (h : zeroFits P e = true) : slidB P e = true := by
  unfold zeroFits at h
  split at h
  · exact (Bool.and_eq_true_iff.1 h).2
  · cases h
theorem growBy_le (n : Nat) (hn : 256 ≤ n) : ∀ (k c : Nat), c ≤ 2 * n → Builtin.growBy n k c ≤ 2 * n
  | 0, c, hc => by simpa [Builtin.growBy] using hc
  | k + 1, c, hc => by
    simp only [Builtin.growBy]
    split
    · exact hc
    · exact growBy_le n hn k _ (by omega)
theorem nextcap_le {need old : Nat} (h : old < need) : Builtin.nextslicecap need old ≤ 2 * need := by
  unfold Builtin.nextslicecap
  split
  · omega
  · split
    · omega
    · exact growBy_le _ (by omega) _ _ (by omega)
theorem nextcap_small {need old bytes : Nat} (h : old < need) (hb : need * bytes ≤ 140737488355328) : ¬ (Builtin.nextslicecap need old * bytes > 281474976710656) := by
  have h1 := Nat.mul_le_mul_right bytes (nextcap_le h)
  have h3 : 2 * need * bytes = 2 * (need * bytes) := by rw [Nat.mul_assoc]
  omega

theorem run_first_am {size n : Nat} {x x' : Value} {vs : List Value} (H : HRel P ρ h w) (e : firstB size n x h = some vs) (hx : VRel ρ x x') (hn : ∀ a l c, x = .slice a l c → n ≤ l) :
    ∃ us : Array Value, (∀ W : World, W.heap = w.heap → (Builtin.firstCells size n x').run P W = .ok us W) ∧ LRel ρ vs us.toList := by
  unfold firstB at e
  split at e
  case h_1 =>
    cases hx
    split at e
    · simp at e; subst e; exact ⟨#[], fun _ _ => rfl, .nil⟩
    · cases e
  case h_2 r off len cap =>
    cases hx with
    | @slice _ _ _ _ cap' a hl hc ha =>
      split at e
      · rename_i hb
        have hb := of_beq hb
        subst hb
        simp at e; subst e
        refine ⟨#[], fun W _ => ?_, .nil⟩
        simp only [Builtin.firstCells, Nat.zero_mul]
        rfl
      · rename_i hb
        have hb := of_beq_f hb
        have hnl := hn _ _ _ rfl
        split at e
        case h_2 => cases e
        rename_i cs hrow
        obtain ⟨l, hlr, rfl, hext⟩ := ha (by omega)
        obtain ⟨l', hl', rel⟩ := H.at_read hrow
        rw [hlr] at hl'; simp at hl'; subst hl'
        obtain ⟨hvs, hle, hlen, hoff⟩ := cut_eq e
        obtain ⟨us, hrel, hus⟩ := cells_there (w := w) (ρ := ρ) (b := l.block) (o := l.base + off) (vs := vs) (fun i x hx => by
          rw [hvs, List.getElem?_take] at hx
          split at hx
          · rw [List.getElem?_drop] at hx
            obtain ⟨u, hu, hv⟩ := rel _ _ hx
            exact ⟨u, by rw [← hu]; congr 2; omega, hv⟩
          · cases hx)
        refine ⟨⟨us⟩, fun W hW => ?_, hrel⟩
        have hrun := run_loadCells_list (P := P) W ⟨l.block, l.base + off, none⟩ us (fun j u hu => by
          rw [add_eq, ← hus j u hu]; simp only [World.cell?, hW])
        have hun : us.length = n * size := by rw [← hrel.length, hlen]
        rw [hun] at hrun
        exact hrun
  case h_3 s =>
    cases hx
    split at e
    case h_2 => cases e
    rename_i bs hbs
    have hv := cellsOfB_eq e
    have hb : bs = s.data.toList.take n := by
      unfold takeAll at hbs
      split at hbs
      · rename_i hq
        have hq := of_beq hq
        simp at hbs; rw [← hbs, hq, List.take_length]
      · exact takeU_eq hbs
    refine ⟨(s.extract 0 n).data.map fun b => .int .u8 b.toNat, fun _ _ => rfl, ?_⟩
    rw [extract_bytes, hv, hb]
    simp only [Nat.sub_zero, List.drop_zero, Array.toList_map]
    exact bytes_flat _ _
  case h_4 => cases e

/-- append where there is no room: a new row, its capacity not known. -/
theorem run_grow_am {ts : Array TypeId} {t₁ t₂ ty e : TypeId} {i : TypeInfo} {xd : TypeDesc} {x' : Value} {base : Option Addr} {len n cap' : Nat} {old new : List Value} {us₁ us₂ : Array Value} {v : Value} (H : HRel P ρ h w)
    (ht₁ : ts[0]? = some t₁) (ht₂ : ts[1]? = some t₂) (hu : P.underlying t₁ = some (.slice e)) (hxd : P.underlying t₂ = some xd) (hxi : ∀ k, xd ≠ .int k) (hi : P.info? e = some i)
    (hlen : (Builtin.lenOf x').run P w = .ok n w) (hno : cap' < len + n) (hsm : (len + n) * i.bytes ≤ 140737488355328)
    (hold : ∀ W : World, W.heap = w.heap → (Builtin.firstCells i.size len (.slice base len cap')).run P W = .ok us₁ W) (hnew : ∀ W : World, W.heap = w.heap → (Builtin.firstCells i.size n x').run P W = .ok us₂ W)
    (r₁ : LRel ρ old us₁.toList) (r₂ : LRel ρ new us₂.toList) (ho : old.length = len * i.size) (hn : new.length = n * i.size) (eg : growB P h e (len + n) old new = some (v, h')) :
    Done P ρ h w (Builtin.append_ ts ty #[.slice base len cap', x']) v h' := by
  unfold growB at eg
  split at eg
  case h_2 => cases eg
  rename_i cs hj hfit
  simp only [Bool.and_eq_true] at hfit
  obtain ⟨hfit, hle⟩ := hfit
  have hle := of_ble hle
  have hj := join_eq hj
  unfold zeroFits at hfit
  split at hfit
  case h_2 => cases hfit
  rename_i zs zn hz hzn
  simp only [Bool.and_eq_true] at hfit
  have hfit := of_beq hfit.1
  split at eg
  case h_2 => cases eg
  rename_i r h₂ hnc
  simp at eg; obtain ⟨rfl, rfl⟩ := eg
  obtain ⟨m, hm, hnc⟩ := newCells_eq hnc
  have hsz : sizeB P e = some i.size := by simp [sizeB, hi]
  have hm' : i.size = m := by rw [hsz] at hm; simpa using hm
  subst hm'
  obtain ⟨c, w₁, hch, ⟨hcn, hcb⟩, hh, ho', ht, hou⟩ := choose_cap (P := P) (w := w) (len + n) cap' e (by omega)
  obtain ⟨z, hz1, hz2, hz3⟩ := run_zeros hz w₁
  let C : Array Value := us₁ ++ us₂ ++ Builtin.zeroCells z.cells (c - (len + n))
  have l1 : us₁.size = len * i.size := by have := r₁.length; simp at this; omega
  have l2 : us₂.size = n * i.size := by have := r₂.length; simp at this; omega
  have hrel : LRel ρ cs (us₁ ++ us₂).toList := by rw [hj, Array.toList_append]; exact r₁.append r₂
  have hCs : (len + n) * i.size ≤ C.size := by simp [C, l1, l2, Nat.add_mul]
  -- the new cells are as many as the capacity holds, if the type's zero value has its size
  have hzsz : (c * i.size ≤ C.size) := by
    have hzl : z.cells.size = i.size := by
      rw [hsz] at hzn; simp at hzn
      rw [← hz2] at hfit; simpa [hzn] using hfit
    simp only [C, Array.size_append, l1, l2, Builtin.zeroCells, Array.size_map, Array.size_range, hzl]
    rw [← Nat.add_mul, ← Nat.add_mul]
    exact Nat.mul_le_mul_right _ (by omega)
  obtain ⟨a, b⟩ := run_newRow_am (ρ := ρ) (C := C) (H.draw hh) hnc hsz (by have := hrel.length; simp at this; simp [C]; omega) (fun k v hv => by
    obtain ⟨u, hu, hvr⟩ := hrel.get hv
    refine ⟨u, ?_, hvr⟩
    rw [Array.getElem?_toList] at hu
    have hk := (Array.getElem?_eq_some_iff.1 hu).1
    simp only [C]
    rw [Array.getElem?_append_left hk]; exact hu)
  refine ⟨_, _, _, ?_, slice_open (ρ := ρ) (r := r) (l := ⟨w₁.heap.size, 0, C.size, i.size⟩) hcn hzsz hcb, a, b.draw hh ho' ht hou⟩
  have hxd' : ∀ W : World, (underlying t₂).run P W = .ok xd W := run_underlying hxd
  have hzer : (match xd with | .int _ => true | _ => false) = false := by cases xd <;> first | rfl | (exact absurd rfl (hxi _))
  have hmax : ¬ (((len + n : Nat) : Int) > IntKind.i64.max) := by rw [IntKind.max_i64]; omega
  have hsmall := nextcap_small hno hsm
  have e1 := hold w₁ hh
  have e2 := hnew w₁ hh
  have hno' : ¬ (len + n ≤ cap') := by omega
  simp only [Builtin.append_]
  simp only [ht₁, ht₂, List.getElem?_toArray, List.getElem?_cons_zero, List.getElem?_cons_succ, Sem.run_bind, run_underlying hu, Result.andThen_ok, run_size hsz, hxd', Sem.run_pure, Bool.false_eq_true, if_false, hlen, Sem.run_ite, if_neg hno', run_typeInfo hi, false_or]
  rw [if_neg (fun hh => hmax hh.1), if_neg (show ¬ (Builtin.nextslicecap (len + n) cap' * i.bytes > 2 ^ 48) from hsmall)]
  simp only [hch, Result.andThen_ok, run_askRoom, e1, Bool.not_false, if_true, e2, hz1, newRow, Sem.run_bind, run_newObj, Sem.run_pure]
  simp only [C, Nat.zero_add]
  rfl

theorem run_inplace {ts : Array TypeId} {t₁ t₂ ty e : TypeId} {size : Nat} {xd : TypeDesc} {x' : Value} {base : Option Addr} {len n cap' : Nat} {us₂ : Array Value} {w' : World}
    (ht₁ : ts[0]? = some t₁) (ht₂ : ts[1]? = some t₂) (hu : P.underlying t₁ = some (.slice e)) (hxd : P.underlying t₂ = some xd) (hxi : ∀ k, xd ≠ .int k) (hsz : sizeB P e = some size)
    (hlen : (Builtin.lenOf x').run P w = .ok n w) (hle : len + n ≤ cap') (hnew : (Builtin.firstCells size n x').run P w = .ok us₂ w)
    (hst : match base with | some a => (storeCells (a.add (len * size)) us₂.toList).run P w = .ok () w' | none => w' = w) :
    (Builtin.append_ ts ty #[.slice base len cap', x']).run P w = .ok (.slice base (len + n) cap') w' := by
  have hxd' : ∀ W : World, (underlying t₂).run P W = .ok xd W := run_underlying hxd
  have hzer : (match xd with | .int _ => true | _ => false) = false := by cases xd <;> first | rfl | (exact absurd rfl (hxi _))
  simp only [Builtin.append_]
  simp only [ht₁, ht₂, List.getElem?_toArray, List.getElem?_cons_zero, List.getElem?_cons_succ, Sem.run_bind, run_underlying hu, Result.andThen_ok, run_size hsz, hxd', Sem.run_pure, Bool.false_eq_true, if_false, hlen, Sem.run_ite, if_pos hle, Bool.not_false, if_true, hnew]
  cases base with
  | none => subst hst; rfl
  | some a => simp only [Sem.run_bind, hst, Result.andThen_ok, Sem.run_pure]

theorem firstB_zero {size : Nat} {x : Value} {vs : List Value} (e : firstB size 0 x h = some vs) : vs = [] := by
  unfold firstB at e
  split at e
  · simpa using e.symm
  · simpa using e.symm
  · split at e
    · rename_i bs hbs
      have hv := cellsOfB_eq e
      unfold takeAll at hbs
      split at hbs
      · rename_i hq
        have hq := of_beq hq
        simp at hbs; subst hbs
        rw [hv, List.eq_nil_of_length_eq_zero hq.symm]; rfl
      · have := takeU_eq hbs
        rw [hv, this]; rfl
    · cases e
  · cases e

theorem firstB_length {size n : Nat} {x : Value} {vs : List Value} (e : firstB size n x h = some vs) (hx : (∃ s, x = .string s) → size = 1 ∧ lenB x = some n) : vs.length = n * size := by
  unfold firstB at e
  split at e
  · split at e
    · rename_i hb; have := of_beq hb; subst this; simp at e; subst e; simp
    · cases e
  · split at e
    · rename_i hb; have := of_beq hb; subst this; simp at e; subst e; simp
    · split at e
      · exact (cut_eq e).2.2.1
      · cases e
  · rename_i s
    obtain ⟨rfl, hl⟩ := hx ⟨s, rfl⟩
    simp [lenB] at hl
    split at e
    · rename_i bs hbs
      have hv := cellsOfB_eq e
      unfold takeAll at hbs
      split at hbs
      · simp at hbs; subst hbs; rw [hv]; simp [← hl]
      · rename_i hq; exact absurd (by rw [← hl]; rfl) (of_beq_f hq)
    · cases e
  · cases e

theorem appended_eq {zc : Array Value} {n size : Nat} (hs : zc.size = size) : (if n * size = 0 then (Result.ok #[] w : Result (Array Value)) else .ok (Builtin.zeroCells zc n) w) = .ok (Builtin.zeroCells zc n) w := by
  by_cases h : n * size = 0
  · rw [if_pos h]
    have : Builtin.zeroCells zc n = #[] := by unfold Builtin.zeroCells; rw [hs, h]; simp
    rw [this]
  · rw [if_neg h]
theorem run_growZ {ts : Array TypeId} {t₁ t₂ ty e : TypeId} {i : TypeInfo} {k : IntKind} {base : Option Addr} {len cap' : Nat} {z : Int} {zs old new : List Value} {us₁ : Array Value} {v : Value} (H : HRel P ρ h w)
    (ht₁ : ts[0]? = some t₁) (ht₂ : ts[1]? = some t₂) (hu : P.underlying t₁ = some (.slice e)) (hxd : P.underlying t₂ = some (.int k)) (hi : P.info? e = some i)
    (h0 : 0 ≤ z) (h1 : z ≤ 140737488355328) (hno : cap' < len + z.toNat) (hsm : (len + z.toNat) * i.bytes ≤ 140737488355328)
    (hold : ∀ W : World, W.heap = w.heap → (Builtin.firstCells i.size len (.slice base len cap')).run P W = .ok us₁ W)
    (r₁ : LRel ρ old us₁.toList) (hzs : zerosB P e = some zs) (hzl : zs.length = i.size) (hrep : rep zs z.toNat = some new) (ho : old.length = len * i.size) (eg : growB P h e (len + z.toNat) old new = some (v, h')) :
    Done P ρ h w (Builtin.append_ ts ty #[.slice base len cap', .int .i64 z]) v h' := by
  unfold growB at eg
  split at eg
  case h_2 => cases eg
  rename_i cs hj hfit
  simp only [Bool.and_eq_true] at hfit
  obtain ⟨hfit, hle⟩ := hfit
  have hle := of_ble hle
  have hj := join_eq hj
  split at eg
  case h_2 => cases eg
  rename_i r h₂ hnc
  simp at eg; obtain ⟨rfl, rfl⟩ := eg
  obtain ⟨m, hm, hnc⟩ := newCells_eq hnc
  have hsz : sizeB P e = some i.size := by simp [sizeB, hi]
  have hm' : i.size = m := by rw [hsz] at hm; simpa using hm
  subst hm'
  obtain ⟨c, w₁, hch, ⟨hcn, hcb⟩, hh, ho', ht, hou⟩ := choose_cap (P := P) (w := w) (len + z.toNat) cap' e (by omega)
  obtain ⟨zc, hz1, hz2, hz3⟩ := run_zeros hzs w₁
  have hzc : zc.cells.size = i.size := by rw [← hzl, ← hz2]; simp
  have hnl : new.length = z.toNat * i.size := by rw [(rep_get hrep).1, hzl]
  have hmodel : (Builtin.zeroCells zc.cells z.toNat).toList = new := by
    by_cases hs0 : i.size = 0
    · exact rep_model hrep hz2 (by rw [hzl, hzc]) (.inl (by rw [hzc, hs0]; simp))
    · exact rep_model hrep hz2 (by rw [hzl, hzc]) (.inr (by omega))
  let us₂ : Array Value := Builtin.zeroCells zc.cells z.toNat
  have r₂ : LRel ρ new us₂.toList := by simp only [us₂]; rw [hmodel]; exact rep_flat hz3 hrep
  let C : Array Value := us₁ ++ us₂ ++ Builtin.zeroCells zc.cells (c - (len + z.toNat))
  have l1 : us₁.size = len * i.size := by have := r₁.length; simp at this; omega
  have l2 : us₂.size = z.toNat * i.size := by have := r₂.length; simp at this; omega
  have hrel : LRel ρ cs (us₁ ++ us₂).toList := by rw [hj, Array.toList_append]; exact r₁.append r₂
  have hCs : (len + z.toNat) * i.size ≤ C.size := by simp [C, l1, l2, Nat.add_mul]
  have hzsz : (c * i.size ≤ C.size) := by
    simp only [C, Array.size_append, l1, l2]
    unfold Builtin.zeroCells
    simp only [Array.size_map, Array.size_range, hzc]
    rw [← Nat.add_mul, ← Nat.add_mul]
    exact Nat.mul_le_mul_right _ (by omega)
  obtain ⟨a, b⟩ := run_newRow_am (ρ := ρ) (C := C) (H.draw hh) hnc hsz (by have := hrel.length; simp at this; simp [C]; omega) (fun k v hv => by
    obtain ⟨u, hu, hvr⟩ := hrel.get hv
    refine ⟨u, ?_, hvr⟩
    rw [Array.getElem?_toList] at hu
    have hk := (Array.getElem?_eq_some_iff.1 hu).1
    simp only [C]
    rw [Array.getElem?_append_left hk]; exact hu)
  refine ⟨_, _, _, ?_, slice_open (ρ := ρ) (r := r) (l := ⟨w₁.heap.size, 0, C.size, i.size⟩) hcn hzsz hcb, a, b.draw hh ho' ht hou⟩
  have hmax : ¬ (((len + z.toNat : Nat) : Int) > IntKind.i64.max) := by rw [IntKind.max_i64]; omega
  have hsmall := nextcap_small hno hsm
  have e1 := hold w₁ hh
  have e2 := appended_eq (w := w₁) (n := z.toNat) hzc
  have hno' : ¬ (len + z.toNat ≤ cap') := by omega
  have hneg : ¬ z < 0 := by omega
  have hbig : ¬ z * (i.bytes : Int) > 2 ^ 48 := by
    obtain ⟨m, rfl⟩ := Int.eq_ofNat_of_zero_le h0
    have : m * i.bytes ≤ (len + m) * i.bytes := Nat.mul_le_mul_right _ (by omega)
    have h3 : m * i.bytes ≤ 140737488355328 := Nat.le_trans this hsm
    have h4 : ((m : Int) * (i.bytes : Int)) = ((m * i.bytes : Nat) : Int) := by simp
    rw [h4]; omega
  have hxd' : ∀ W : World, (underlying t₂).run P W = .ok (.int k) W := run_underlying hxd
  simp only [Builtin.append_]
  simp only [ht₁, ht₂, List.getElem?_toArray, List.getElem?_cons_zero, List.getElem?_cons_succ, Sem.run_bind, run_underlying hu, Result.andThen_ok, run_size hsz, hxd', Sem.run_pure, asInt, asIntOf, Sem.run_ite, if_true, wrap_small h0 h1, if_neg hneg, run_typeInfo hi, if_neg hbig, if_neg hno', true_or, and_true, if_neg hmax, Bool.not_true, Bool.false_eq_true, if_false]
  rw [if_neg (show ¬ (Builtin.nextslicecap (len + z.toNat) cap' * i.bytes > 2 ^ 48) from hsmall)]
  simp only [hch, Result.andThen_ok, run_askRoom, e1, hz1, e2, newRow, Sem.run_bind, run_newObj, Sem.run_pure]
  simp only [C, us₂, Nat.zero_add]
  rfl

theorem run_inplaceZ {ts : Array TypeId} {t₁ t₂ ty e : TypeId} {i : TypeInfo} {k : IntKind} {base : Option Addr} {len cap' : Nat} {z : Int} {zc : Value} {w' : World}
    (ht₁ : ts[0]? = some t₁) (ht₂ : ts[1]? = some t₂) (hu : P.underlying t₁ = some (.slice e)) (hxd : P.underlying t₂ = some (.int k)) (hi : P.info? e = some i)
    (h0 : 0 ≤ z) (h1 : z ≤ 140737488355328) (hle : len + z.toNat ≤ cap') (hsm : (len + z.toNat) * i.bytes ≤ 140737488355328)
    (hz1 : (zeroValue e).run P w = .ok zc w) (hzc : zc.cells.size = i.size)
    (hst : match base with | some a => (storeCells (a.add (len * i.size)) (Builtin.zeroCells zc.cells z.toNat).toList).run P w = .ok () w' | none => w' = w) :
    (Builtin.append_ ts ty #[.slice base len cap', .int .i64 z]).run P w = .ok (.slice base (len + z.toNat) cap') w' := by
  have hsz : sizeB P e = some i.size := by simp [sizeB, hi]
  have e2 := appended_eq (w := w) (n := z.toNat) hzc
  have hneg : ¬ z < 0 := by omega
  have hbig : ¬ z * (i.bytes : Int) > 2 ^ 48 := by
    obtain ⟨m, rfl⟩ := Int.eq_ofNat_of_zero_le h0
    have : m * i.bytes ≤ (len + m) * i.bytes := Nat.mul_le_mul_right _ (by omega)
    have h3 : m * i.bytes ≤ 140737488355328 := Nat.le_trans this hsm
    have h4 : ((m : Int) * (i.bytes : Int)) = ((m * i.bytes : Nat) : Int) := by simp
    rw [h4]; omega
  have hxd' : ∀ W : World, (underlying t₂).run P W = .ok (.int k) W := run_underlying hxd
  simp only [Builtin.append_]
  simp only [ht₁, ht₂, List.getElem?_toArray, List.getElem?_cons_zero, List.getElem?_cons_succ, Sem.run_bind, run_underlying hu, Result.andThen_ok, run_size hsz, hxd', Sem.run_pure, asInt, asIntOf, Sem.run_ite, if_true, wrap_small h0 h1, if_neg hneg, run_typeInfo hi, if_neg hbig, if_pos hle, Bool.not_true, Bool.false_eq_true, if_false, hz1, e2]
  cases base with
  | none => subst hst; rfl
  | some a => simp only [Sem.run_bind, hst, Result.andThen_ok, Sem.run_pure]

theorem run_appendZ {ts : Array TypeId} {t₁ t₂ ty e : TypeId} {k : IntKind} {base : Option Addr} {len cap : Nat} {x s' x' : Value} {v : Value} (H : HRel P ρ h w) (ht₁ : ts[0]? = some t₁) (ht₂ : ts[1]? = some t₂) (hu : P.underlying t₁ = some (.slice e)) (hxd : P.underlying t₂ = some (.int k))
    (ea : appendZB P e base len cap x h = some (v, h')) (hs : VRel ρ (.slice base len cap) s') (hx : VRel ρ x x') : Done P ρ h w (Builtin.append_ ts ty #[s', x']) v h' := by
  unfold appendZB at ea
  split at ea
  case h_2 => cases ea
  rename_i z i zs hi hzs
  cases hx
  split at ea
  case h_2 => cases ea
  rename_i new hb hrep
  simp only [Bool.and_eq_true] at hb
  obtain ⟨⟨hz0, hz1⟩, hsm0, hzl⟩ := hb
  have hz0 := ileB_iff.1 hz0
  have hz1 := ileB_iff.1 hz1
  have hzl := of_beq hzl
  have hsz : sizeB P e = some i.size := by simp [sizeB, hi]
  split at ea
  case h_1 => cases ea
  rename_i hone
  split at ea
  case h_1 hcap =>
    have hcap := of_beq_f hcap
    split at ea
    case h_1 => cases ea
    rename_i hle
    have hle := of_ble_f hle
    split at ea
    case h_2 => cases ea
    rename_i old hold hsm
    have hsm := of_ble hsm
    have hsm' : (len + z.toNat) * i.bytes ≤ 140737488355328 := Nat.le_trans (Nat.mul_le_mul_right _ (by omega)) hsm
    obtain ⟨us₁, hF1, hR1⟩ := run_first_am H hold hs (fun a l c hh => by simp at hh; omega)
    have hol : old.length = len * i.size := firstB_length hold fun ⟨s, hh⟩ => by cases hh
    cases hs with
    | sliceNil => exact run_growZ H ht₁ ht₂ hu hxd hi hz0 hz1 hle hsm' hF1 hR1 hzs hzl hrep hol ea
    | @slice _ _ _ _ cap' a hl hc ha =>
      have := hc hcap
      subst this
      exact run_growZ H ht₁ ht₂ hu hxd hi hz0 hz1 hle hsm' hF1 hR1 hzs hzl hrep hol ea
  case h_2 hcap =>
    have hcap := of_beq hcap
    split at ea
    case h_2 => cases ea
    rename_i r off
    split at ea
    case h_2 => cases ea
    rename_i e' cs hrow hsm
    have hsm := of_ble hsm
    split at ea
    case h_2 => cases ea
    rename_i hee
    have hee := of_beq hee
    subst hee
    split at ea
    case h_2 => cases ea
    rename_i old h₀ hold hput
    obtain ⟨hov, hole, hol, hoff⟩ := cut_eq hold
    cases hs with
    | @slice _ _ _ _ cap' a hl hc ha =>
      obtain ⟨l, C, f, hlr, hblk, hf, h1, h2, h3, rel⟩ := H.at_cells hrow
      rw [hsz] at h3; simp at h3
      by_cases hle : len + z.toNat ≤ cap'
      · obtain ⟨zc, hzr, hz2, hz3⟩ := run_zeros hzs w
        have hzc : zc.cells.size = i.size := by rw [← hzl, ← hz2]; simp
        have hnl : new.length = z.toNat * i.size := by rw [(rep_get hrep).1, hzl]
        have hmodel : (Builtin.zeroCells zc.cells z.toNat).toList = new := by
          by_cases hs0 : i.size = 0
          · exact rep_model hrep hz2 (by rw [hzl, hzc]) (.inl (by rw [hzc, hs0]; simp))
          · exact rep_model hrep hz2 (by rw [hzl, hzc]) (.inr (by omega))
        have hR2 : LRel ρ new (Builtin.zeroCells zc.cells z.toNat).toList := by rw [hmodel]; exact rep_flat hz3 hrep
        have hone2 := hR2.one hone
        have hus2 := hR2.length
        unfold growB at ea
        split at ea
        case h_2 => cases ea
        rename_i cs₂ hj hfit
        have hslid := slid_of (Bool.and_eq_true_iff.1 hfit).1
        have hj := join_eq hj
        split at ea
        case h_2 => cases ea
        rename_i r' h₂ hnc
        obtain ⟨m, hm, hnc⟩ := newCells_eq hnc
        simp at ea; obtain ⟨rfl, rfl⟩ := ea
        by_cases hz : cap' = 0
        · have h0 : len = 0 := by omega
          have h1n : z.toNat = 0 := by omega
          have hnil : new = [] := List.eq_nil_of_length_eq_zero (by rw [hnl, h1n]; simp)
          have hold' : old = [] := List.eq_nil_of_length_eq_zero (by rw [hol, h0]; simp)
          subst hnil hold' h0 hz
          simp at hj; subst hj
          have hzn : (Builtin.zeroCells zc.cells z.toNat).toList = [] := hmodel
          have hstz : ∀ a, (storeCells (Addr.add a (0 * i.size)) (Builtin.zeroCells zc.cells z.toNat).toList).run P w = .ok () w := fun a => by rw [hzn]; rfl
          obtain ⟨q1, q2⟩ := H.move (C' := C) (l' := ⟨l.block, l.base, 0, l.esz⟩) hrow hlr hblk hput hnc rfl rfl (by simp) (by simp; omega) rfl (.inl rfl) (fun k v hk => by simp at hk)
          rw [setRow_self w _ _ _ _ hblk] at q1 q2
          refine ⟨_, _, _, run_inplaceZ (w' := w) ht₁ ht₂ hu hxd hi hz0 hz1 hle hsm hzr hzc (hstz a), ?_, q1, q2⟩
          rw [h1n]
          exact .slice (by omega) (fun hne => absurd rfl hne) fun hz => absurd rfl hz
        · obtain ⟨l', hl', rfl, hext⟩ := ha hz
          rw [hlr] at hl'; simp at hl'; subst hl'
          have hext2 := (hext hcap).2
          have hext := (hext hcap).1
          have hmul : (len + z.toNat) * i.size ≤ cap' * l.esz := by rw [h3]; exact Nat.mul_le_mul_right _ hle
          have hma : (len + z.toNat) * i.size = len * i.size + z.toNat * i.size := Nat.add_mul _ _ _
          obtain ⟨C', hrun, hs', hget⟩ := run_storeCells_am (P := P) l.block (l.base + off + len * i.size) e' f (Builtin.zeroCells zc.cells z.toNat).toList 0 C w hblk hf (by omega) hone2
          obtain ⟨q1, q2⟩ := H.move (C' := C') (l' := ⟨l.block, l.base + off, cap' * l.esz, l.esz⟩) hrow hlr hblk hput hnc hs' rfl (by rw [hj]; simp; omega) (by simp; omega) rfl (.inr hslid) (fun k v hk => by
            show ∃ u, C'[l.base + off + k]? = some u ∧ _
            rw [hget]
            rw [hj] at hk
            by_cases hk1 : k < old.length
            · rw [List.getElem?_append_left hk1] at hk
              rw [if_neg (by omega)]
              rw [hov, List.getElem?_take, if_pos (by omega), List.getElem?_drop] at hk
              obtain ⟨u, hu', hv⟩ := rel _ _ hk
              exact ⟨u, by rw [← hu']; congr 1; omega, hv⟩
            · rw [List.getElem?_append_right (by omega)] at hk
              obtain ⟨u, hu', hv⟩ := hR2.get hk
              have hlt := (List.getElem?_eq_some_iff.1 hu').1
              rw [if_pos (by omega)]
              exact ⟨u, by rw [← hu']; congr 1; omega, hv⟩)
          refine ⟨_, _, _, run_inplaceZ ht₁ ht₂ hu hxd hi hz0 hz1 hle hsm hzr hzc (by show (storeCells (Addr.add _ _) _).run P w = _; rw [add_eq]; exact hrun), .slice hle (fun hne => absurd rfl hne) fun hz => ⟨⟨l.block, l.base + off, cap' * l.esz, l.esz⟩, by simp [upd], rfl, fun _ => ⟨by simp, hext2⟩⟩, q1, q2⟩
      · have hle : cap' < len + z.toNat := by omega
        obtain ⟨q1, q2⟩ := H.drop hput
        have hF1 : ∃ us₁ : Array Value, (∀ W : World, W.heap = w.heap → (Builtin.firstCells i.size len (.slice (some a) len cap')).run P W = .ok us₁ W) ∧ LRel ρ old us₁.toList := by
          by_cases hz : len = 0
          · subst hz
            have hold' : old = [] := by simpa using hol
            subst hold'
            exact ⟨#[], fun W _ => by simp only [Builtin.firstCells, Nat.zero_mul]; rfl, .nil⟩
          · obtain ⟨l', hl', rfl, hext⟩ := ha (by omega)
            rw [hlr] at hl'; simp at hl'; subst hl'
            have hin : l.base + off + len * i.size ≤ C.size := by rcases hole with hole | hole <;> omega
            refine ⟨⟨(C.toList.drop (l.base + off)).take (len * i.size)⟩, fun W hW => by simp only [Builtin.firstCells]; exact run_loadCells_list' (by rw [hW]; exact hblk) hin, LRel.of_get (by rw [hol]; simp; omega) fun k x hx => ?_⟩
            rw [hov, List.getElem?_take] at hx
            split at hx
            · rename_i hk
              rw [List.getElem?_drop] at hx
              obtain ⟨u, hu', hv⟩ := rel _ _ hx
              refine ⟨u, ?_, hv⟩
              rw [List.getElem?_take, if_pos hk, List.getElem?_drop, Array.getElem?_toList, ← hu']
              congr 1; omega
            · cases hx
        obtain ⟨us₁, hF1, hR1⟩ := hF1
        obtain ⟨u, w', ρ', g1, g2, g3, g4⟩ := run_growZ (ty := ty) q1 ht₁ ht₂ hu hxd hi hz0 hz1 hle hsm hF1 hR1 hzs hzl hrep hol ea
        exact ⟨u, w', ρ', g1, g2, g3, q2.trans g4⟩

theorem run_append_am {ts : Array TypeId} {ty : TypeId} {args args' : List Value} {v : Value} (H : HRel P ρ h w) (ea : appendB P ts args h = some (v, h')) (ha : LRel ρ args args') : Done P ρ h w (Builtin.append_ ts ty ⟨args'⟩) v h' := by
  unfold appendB at ea
  split at ea
  case h_2 => cases ea
  rename_i base len cap x
  split at ea
  case h_2 => cases ea
  rename_i t₁ t₂ ht₁ ht₂
  split at ea
  case h_2 => cases ea
  rename_i e xd hu hxd
  split at ea
  case h_1 k =>
    cases ha with
    | @cons _ s' _ rest hs ha =>
      cases ha with
      | @cons _ x' _ rest' hx ha =>
        cases ha
        exact run_appendZ H ht₁ ht₂ hu hxd ea hs hx
  rename_i hxi
  have hxi : ∀ k, xd ≠ .int k := fun k hk => hxi k hk
  split at ea
  case h_2 => cases ea
  rename_i i n hi hn
  split at ea
  case h_2 => cases ea
  rename_i new hnew
  split at ea
  case h_1 => cases ea
  rename_i hone
  simp only [Bool.and_eq_true, Bool.or_eq_true] at hone
  obtain ⟨hone, hstr⟩ := hone
  have hsz : sizeB P e = some i.size := by simp [sizeB, hi]
  cases ha with
  | @cons _ s' _ rest hs ha =>
    cases ha with
    | @cons _ x' _ rest' hx ha =>
      cases ha
      have hlen : ∀ W : World, (Builtin.lenOf x').run P W = .ok n W := fun W => by
        cases hx <;> simp only [lenB] at hn <;> first | (cases hn; done) | skip
        · simp at hn; subst hn; rfl
        · simp at hn; subst hn; rfl
        · simp at hn; subst hn; rfl
      have hnl : ∀ a l c, x = .slice a l c → n ≤ l := fun a l c hh => by subst hh; simp [lenB] at hn; omega
      obtain ⟨us₂, hF2, hR2⟩ := run_first_am H hnew hx hnl
      have hnl2 : new.length = n * i.size := firstB_length hnew fun ⟨s, hs'⟩ => by
        subst hs'
        refine ⟨?_, hn⟩
        rcases hstr with hh | hh
        · cases hh
        · exact of_beq hh
      have hus2 := hR2.length
      have hone2 := hR2.one hone
      split at ea
      case h_1 hcap =>
        have hcap := of_beq_f hcap
        split at ea
        case h_1 hle =>
          have hle := of_ble hle
          split at ea
          case h_1 hz =>
            have hz := of_beq hz
            subst hz
            simp at ea; obtain ⟨rfl, rfl⟩ := ea
            have hnil := firstB_zero hnew
            subst hnil
            have hus : us₂ = #[] := by simpa using hus2.symm
            subst hus
            cases hs with
            | sliceNil => exact Done.quiet H (run_inplace (w' := w) ht₁ ht₂ hu hxd hxi hsz (hlen w) hle (hF2 w rfl) rfl) .sliceNil
            | @slice _ _ _ _ cap' a hl hc ha =>
              have := hc hcap
              subst this
              exact Done.quiet H (run_inplace (w' := w) ht₁ ht₂ hu hxd hxi hsz (hlen w) hle (hF2 w rfl) rfl) (.slice hl hc ha)
          case h_2 hz =>
            have hz := of_beq_f hz
            split at ea
            case h_2 => cases ea
            rename_i r off
            split at ea
            case h_2 => cases ea
            rename_i e' cs hrow
            split at ea
            case h_2 => cases ea
            rename_i cs' hlay
            split at ea
            case h_2 => cases ea
            rename_i h₂ hput
            simp at ea; obtain ⟨rfl, rfl⟩ := ea
            cases hs with
            | @slice _ _ _ _ cap' a hl hc ha =>
              have := hc hcap
              subst this
              obtain ⟨l, hlr, rfl, hext⟩ := ha (by omega)
              obtain ⟨l', C, f, hl', hblk, hf, h1, h2, h3, rel⟩ := H.at_cells hrow
              rw [hlr] at hl'; simp at hl'; subst hl'
              have hlle := (lay_eq hlay).2
              obtain ⟨C', hrun, hs', hget⟩ := run_storeCells_am (P := P) l.block (l.base + off + len * i.size) e' f us₂.toList 0 C w hblk hf (by omega) hone2
              obtain ⟨q1, q2⟩ := H.write (C' := C') hrow hlr hblk hput hs' (lay_length hlay) (fun k u hk => by
                rw [lay_get hlay] at hk
                rw [hget]
                split at hk
                · rename_i hin
                  rw [if_pos (by omega)]
                  obtain ⟨u', hu', hr⟩ := hR2.get hk
                  exact ⟨u', by rw [← hu']; congr 1; omega, hr⟩
                · rename_i hin
                  rw [if_neg (by omega)]
                  exact rel _ _ hk)
              exact ⟨_, _, ρ, run_inplace ht₁ ht₂ hu hxd hxi hsz (hlen w) hle (hF2 w rfl) (by show (storeCells (Addr.add _ _) _).run P w = _; rw [add_eq]; exact hrun), .slice hle (fun _ => rfl) fun hz => ⟨l, hlr, rfl, hext⟩, q1, q2⟩
        case h_2 hle =>
          have hle := of_ble_f hle
          split at ea
          case h_2 => cases ea
          rename_i old hold hsm
          have hsm := of_ble hsm
          have hsm' : (len + n) * i.bytes ≤ 140737488355328 := Nat.le_trans (Nat.mul_le_mul_right _ (by omega)) hsm
          obtain ⟨us₁, hF1, hR1⟩ := run_first_am H hold hs (fun a l c hh => by simp at hh; omega)
          have hol : old.length = len * i.size := firstB_length hold fun ⟨s, hh⟩ => by cases hh
          cases hs with
          | sliceNil => exact run_grow_am H ht₁ ht₂ hu hxd hxi hi (hlen w) hle hsm' hF1 hF2 hR1 hR2 hol hnl2 ea
          | @slice _ _ _ _ cap' a hl hc ha =>
            have := hc hcap
            subst this
            exact run_grow_am H ht₁ ht₂ hu hxd hxi hi (hlen w) hle hsm' hF1 hF2 hR1 hR2 hol hnl2 ea
      case h_2 hcap =>
        have hcap := of_beq hcap
        split at ea
        case h_2 => cases ea
        rename_i r off
        split at ea
        case h_2 => cases ea
        rename_i e' cs hrow hsm
        have hsm := of_ble hsm
        split at ea
        case h_2 => cases ea
        rename_i hee
        have hee := of_beq hee
        subst hee
        split at ea
        case h_2 => cases ea
        rename_i old h₀ hold hput
        obtain ⟨hov, hole, hol, hoff⟩ := cut_eq hold
        cases hs with
        | @slice _ _ _ _ cap' a hl hc ha =>
          obtain ⟨l, C, f, hlr, hblk, hf, h1, h2, h3, rel⟩ := H.at_cells hrow
          rw [hsz] at h3; simp at h3
          by_cases hle : len + n ≤ cap'
          · -- there is room: the block goes on as the new row's
            unfold growB at ea
            split at ea
            case h_2 => cases ea
            rename_i cs₂ hj hfit
            have hslid := slid_of (Bool.and_eq_true_iff.1 hfit).1
            have hj := join_eq hj
            split at ea
            case h_2 => cases ea
            rename_i r' h₂ hnc
            obtain ⟨m, hm, hnc⟩ := newCells_eq hnc
            simp at ea; obtain ⟨rfl, rfl⟩ := ea
            by_cases hz : cap' = 0
            · have h0 : len = 0 := by omega
              have h1n : n = 0 := by omega
              subst h0 h1n hz
              have hnil := firstB_zero hnew
              subst hnil
              have hus : us₂ = #[] := by simpa using hus2.symm
              subst hus
              have hold' : old = [] := by simpa using hol
              subst hold'
              simp at hj; subst hj
              obtain ⟨q1, q2⟩ := H.move (C' := C) (l' := ⟨l.block, l.base, 0, l.esz⟩) hrow hlr hblk hput hnc rfl rfl (by simp) (by simp; omega) rfl (.inl rfl) (fun k v hk => by simp at hk)
              rw [setRow_self w _ _ _ _ hblk] at q1 q2
              exact ⟨_, _, _, run_inplace (w' := w) ht₁ ht₂ hu hxd hxi hsz (hlen w) hle (hF2 w rfl) rfl, .slice hl (fun hne => absurd rfl hne) fun hz => absurd rfl hz, q1, q2⟩
            · obtain ⟨l', hl', rfl, hext⟩ := ha hz
              rw [hlr] at hl'; simp at hl'; subst hl'
              have hext2 := (hext hcap).2
              have hext := (hext hcap).1
              have hmul : (len + n) * i.size ≤ cap' * l.esz := by rw [h3]; exact Nat.mul_le_mul_right _ hle
              have hma : (len + n) * i.size = len * i.size + n * i.size := Nat.add_mul _ _ _
              obtain ⟨C', hrun, hs', hget⟩ := run_storeCells_am (P := P) l.block (l.base + off + len * i.size) e' f us₂.toList 0 C w hblk hf (by omega) hone2
              obtain ⟨q1, q2⟩ := H.move (C' := C') (l' := ⟨l.block, l.base + off, cap' * l.esz, l.esz⟩) hrow hlr hblk hput hnc hs' rfl (by rw [hj]; simp; omega) (by simp; omega) rfl (.inr hslid) (fun k v hk => by
                show ∃ u, C'[l.base + off + k]? = some u ∧ _
                rw [hget]
                rw [hj] at hk
                by_cases hk1 : k < old.length
                · rw [List.getElem?_append_left hk1] at hk
                  rw [if_neg (by omega)]
                  rw [hov, List.getElem?_take, if_pos (by omega), List.getElem?_drop] at hk
                  obtain ⟨u, hu', hv⟩ := rel _ _ hk
                  exact ⟨u, by rw [← hu']; congr 1; omega, hv⟩
                · rw [List.getElem?_append_right (by omega)] at hk
                  obtain ⟨u, hu', hv⟩ := hR2.get hk
                  have hlt := (List.getElem?_eq_some_iff.1 hu').1
                  rw [if_pos (by omega)]
                  exact ⟨u, by rw [← hu']; congr 1; omega, hv⟩)
              refine ⟨_, _, _, run_inplace ht₁ ht₂ hu hxd hxi hsz (hlen w) hle (hF2 w rfl) (by show (storeCells (Addr.add _ _) _).run P w = _; rw [add_eq]; exact hrun), .slice hle (fun hne => absurd rfl hne) fun hz => ⟨⟨l.block, l.base + off, cap' * l.esz, l.esz⟩, by simp [upd], rfl, fun _ => ⟨by simp, hext2⟩⟩, q1, q2⟩
          · have hle : cap' < len + n := by omega
            obtain ⟨q1, q2⟩ := H.drop hput
            have hF1 : ∃ us₁ : Array Value, (∀ W : World, W.heap = w.heap → (Builtin.firstCells i.size len (.slice (some a) len cap')).run P W = .ok us₁ W) ∧ LRel ρ old us₁.toList := by
              by_cases hz : len = 0
              · subst hz
                have hold' : old = [] := by simpa using hol
                subst hold'
                exact ⟨#[], fun W _ => by simp only [Builtin.firstCells, Nat.zero_mul]; rfl, .nil⟩
              · obtain ⟨l', hl', rfl, hext⟩ := ha (by omega)
                rw [hlr] at hl'; simp at hl'; subst hl'
                have hin : l.base + off + len * i.size ≤ C.size := by rcases hole with hole | hole <;> omega
                refine ⟨⟨(C.toList.drop (l.base + off)).take (len * i.size)⟩, fun W hW => by simp only [Builtin.firstCells]; exact run_loadCells_list' (by rw [hW]; exact hblk) hin, LRel.of_get (by rw [hol]; simp; omega) fun k x hx => ?_⟩
                rw [hov, List.getElem?_take] at hx
                split at hx
                · rename_i hk
                  rw [List.getElem?_drop] at hx
                  obtain ⟨u, hu', hv⟩ := rel _ _ hx
                  refine ⟨u, ?_, hv⟩
                  rw [List.getElem?_take, if_pos hk, List.getElem?_drop, Array.getElem?_toList, ← hu']
                  congr 1; omega
                · cases hx
            obtain ⟨us₁, hF1, hR1⟩ := hF1
            obtain ⟨u, w', ρ', g1, g2, g3, g4⟩ := run_grow_am (ty := ty) q1 ht₁ ht₂ hu hxd hxi hi (hlen w) hle hsm hF1 hF2 hR1 hR2 hol hnl2 ea
            exact ⟨u, w', ρ', g1, g2, g3, q2.trans g4⟩
end
end Go.Am

